/- StatesMemory: walked. -/
import Derived.Test.YtejjdfmobiegdaaDoorStY
import Derived.Test.YtejjdfmobiegdaaDoorStV
import Derived.Deep.RegionHeld3
set_option linter.unusedVariables false
namespace Go.Proofs.YtejjdfmobiegdaaDoor
open Go.RowKit
open Doc

theorem heap_any_set {w : World} {k : Nat} {cur : Array Value} {e : TypeId} {fr : Nat × Nat} (h : w.heap[k]? = some (.cells cur e fr)) (g i : Nat) (u : Value) : ∃ cur', (w.setCell ⟨g, i, none⟩ u).heap[k]? = some (.cells cur' e fr) ∧ cur'.size = cur.size := by
  by_cases hk : k = g
  · subst hk
    refine ⟨cur.set! i u, ?_, by simp⟩
    simp only [World.setCell, Array.getElem?_modify, h, Option.map_some, if_true, Array.set!]
    rfl
  · exact ⟨cur, (Below.heap_setCell _ _ _ _ hk).trans h, rfl⟩
/-- A row of one's own, whatever it holds. -/
def OwnE (w : World) (base : Nat) (e : TypeId) (size : Nat) (v : Value) (n : Nat) : Prop := ∃ xs, w.ownsRow base e size v n xs
theorem OwnE.set {w : World} {base e size n : Nat} {v : Value} (h : OwnE w base e size v n) (g i : Nat) (u : Value) : OwnE (w.setCell ⟨g, i, none⟩ u) base e size v n := by
  obtain ⟨xs, h1, h2⟩ := h
  rcases h2 with h2 | ⟨k, cap, cur, hv, hb, hh, hn, hm, hs, ht⟩
  · exact ⟨xs, h1, .inl h2⟩
  · obtain ⟨cur', h3, h4⟩ := heap_any_set hh g i u
    refine ⟨cur'.toList.take (n * size), ?_, .inr ⟨k, cap, cur', hv, hb, h3, hn, hm, h4.trans hs, rfl⟩⟩
    rw [List.length_take, Array.length_toList, h4, hs]
    exact Nat.min_eq_left (Nat.mul_le_mul_right _ hn)
theorem OwnE.below {w w' : World} {base e size n : Nat} {v : Value} (h : OwnE w base e size v n) (hb : Below w.heap.size w w') : OwnE w' base e size v n := by
  obtain ⟨xs, h1⟩ := h
  exact ⟨xs, own_same h1 fun k _ hk => hb.block k hk⟩
/-- A cell of such a row. -/
theorem OwnE.cell {w : World} {base e size n c g : Nat} (h : OwnE w base e size (.slice (some ⟨g, 0, none⟩) n c) n) {i : Nat} (hi : i < n * size) : ∃ u, w.cell? ⟨g, i, none⟩ = some u ∧ w.frozen? ⟨g, i, none⟩ = false ∧ g < w.heap.size := by
  obtain ⟨xs, h1⟩ := h
  have hl : i < xs.length := by rw [h1.1]; exact hi
  exact ⟨_, own_cellF h1 (List.getElem?_eq_getElem hl)⟩
theorem OwnE.some {w : World} {base e size n c : Nat} {a : Option Addr} (h : OwnE w base e size (.slice a n c) n) (hn : 0 < n) : ∃ g, a = some ⟨g, 0, none⟩ ∧ base ≤ g ∧ g < w.heap.size ∧ ∃ cur, w.heap[g]? = some (.cells cur e (0, 0)) := by
  obtain ⟨xs, h1⟩ := h
  exact own_some h1 hn
/-- A grammar in memory that is being spoilt: its box, its rows as rows of one's own. -/
structure Spl (w : World) (base BX : Nat) (g : Gr) (a1 a2 a3 : Option Addr) (c1 c2 c3 : Nat) (ls : List Lay) : Prop where
  q : w.heap[BX]? = some (.cells #[.slice a1 g.terms.length c1, .slice a2 g.nons.length c2, .slice a3 g.prods.length c3] 29)
  t : OwnE w base 9 1 (.slice a1 g.terms.length c1) g.terms.length
  p : ∃ ys, w.ownsRow base 68 2 (.slice a3 g.prods.length c3) g.prods.length ys ∧ ∀ (j : Nat) (x : Lay), ls[j]? = some x → ys[j * 2 + 1]? = some (.slice x.addr x.right.length x.cap)
  r : ∀ x ∈ ls, OwnE w base 3 1 (.slice x.addr x.right.length x.cap) x.right.length
theorem GrO.spl {w : World} {base BX : Nat} {g : Gr} {a1 a2 a3 : Option Addr} {c1 c2 c3 : Nat} {ls : List Lay} (h : GrO w base a1 a2 a3 c1 c2 c3 g ls) (hq : w.heap[BX]? = some (.cells #[.slice a1 g.terms.length c1, .slice a2 g.nons.length c2, .slice a3 g.prods.length c3] 29)) : Spl w base BX g a1 a2 a3 c1 c2 c3 ls := by
  have hl : ls.length = g.prods.length := by rw [← h.p, List.length_map]
  refine ⟨hq, ⟨_, h.t⟩, ⟨lays ls, by rw [← hl]; exact h.q, fun j x hx => (lays_at _ _ _ hx).2⟩, fun x hx => ⟨_, h.r x hx⟩⟩
theorem Spl.left {w : World} {base BX : Nat} {g : Gr} {a1 a2 : Option Addr} {c1 c2 c3 gp : Nat} {ls : List Lay} (h : Spl w base BX g a1 a2 (some ⟨gp, 0, none⟩) c1 c2 c3 ls) {j : Nat} (hj : j < g.prods.length) (u : Value) : Spl (w.setCell ⟨gp, j * 2, none⟩ u) base BX g a1 a2 (some ⟨gp, 0, none⟩) c1 c2 c3 ls := by
  obtain ⟨ys, hy, hz⟩ := h.p
  obtain ⟨_, _, cur, hc⟩ := own_block hy (g := gp) rfl
  refine ⟨(Below.heap_setCell _ _ _ _ (obj_ne h.q hc (by decide))).trans h.q, h.t.set _ _ _, ⟨ys.set (j * 2) u, own_set hy (by omega) u, fun i x hx => ?_⟩, fun x hx => (h.r x hx).set _ _ _⟩
  rw [List.getElem?_set_ne (by omega)]
  exact hz i x hx
theorem Spl.other {w : World} {base BX : Nat} {g : Gr} {a1 a2 a3 : Option Addr} {c1 c2 c3 gx i : Nat} {ls : List Lay} (h : Spl w base BX g a1 a2 a3 c1 c2 c3 ls) {cur : Array Value} {e : TypeId} {fr : Nat × Nat} (hc : w.heap[gx]? = some (.cells cur e fr)) (h1 : 29 ≠ e) (h2 : 68 ≠ e) (u : Value) : Spl (w.setCell ⟨gx, i, none⟩ u) base BX g a1 a2 a3 c1 c2 c3 ls := by
  obtain ⟨ys, hy, hz⟩ := h.p
  refine ⟨(Below.heap_setCell _ _ _ _ fun e2 => ?_).trans h.q, h.t.set _ _ _, ⟨ys, own_far hy (own_type hy hc h2), hz⟩, fun x hx => (h.r x hx).set _ _ _⟩
  have e2 : BX = gx := e2
  have hq := h.q
  rw [e2, hc] at hq
  injection hq with hq
  injection hq with _ hq _
  exact h1 hq.symm
theorem good_copy {n : Int} {g : Gr} (hp : parse (textsL.getD (n % 17).toNat []) = .ok g) (w : World) : Calls Tryd.prog 33 #[.int .i64 n] w (CopyTo g w) :=
  (good_any n w).mono fun e w' ⟨hb, ts, ns, ls, at_, an, ap, ct, cn, cp, he, hr, hq⟩ => by
    rw [hp] at hq
    obtain rfl : g = ⟨ts, ns, ls.map Lay.plain⟩ := End.ok.inj hq
    exact ⟨hb, at_, an, ap, ct, cn, cp, ls, by rw [he]; simp, ⟨rfl, hr.t, hr.n, hr.p, hr.r⟩⟩
def boxG (g : Gr) (a1 a2 a3 : Option Addr) (c1 c2 c3 : Nat) : Obj := .cells #[.slice a1 g.terms.length c1, .slice a2 g.nons.length c2, .slice a3 g.prods.length c3] 29
set_option maxRecDepth 100000 in
set_option maxHeartbeats 16000000 in
theorem statesMemory_on (n at_ : Int) (w : World) (HT : Sl.Tab w) {g : Gr} {all : List StP} (hp : parse (textsL.getD (n % 17).toNat []) = .ok g) (hck : CheckG g) (hf : Fru g 100) (hM : machS (kOf g) g 600 = some all) :
    Calls Tryd.prog 10 #[.int .i64 n, .int .i64 at_] w fun e w' => e = .returned (.bool true) ∧ Below w.heap.size w w' := by
  have HTT := Lib.hid HT
  have HCK := Lib.hid hck
  have HGO := Lib.hid fun W => good_copy hp W
  unfold CopyTo at HGO
  have hn1 := mach_len hM
  have hn6 := mach_bound hM (by omega)
  have HOK := Lib.hid fun v W (h : GramAt W v g) (hT : Sl.Tab W) => snew_ok (b := 600) h hck hT hf (by omega) hM
  unfold OkTo at HOK
  have HNT := Lib.hid hck.t8
  have hnp : g.prods.length ≤ 24 := hck.p24
  have hnp1 : 1 ≤ g.prods.length := hck.p1
  have hnt : g.terms.length ≤ 8 := hck.t8
  clear HT hck hp hf hM
  go_enter Tryd.func10, Tryd.ntmps10
  go_upto_region 2 with (go_at_call 33; (with_reducible refine (HGO.out w).mono ?_); rintro e w1 ⟨hb1, p1, p2, p3, m1, m2, m3, lsp, rfl, hG1⟩)
  have hbx : Below w1.heap.size w1 (w1.alloc (.cells #[.slice p1 g.terms.length m1, .slice p2 g.nons.length m2, .slice p3 g.prods.length m3] 29)) := (Below.refl _ _).alloc (Nat.le_refl _) _
  have HQS5 := Lib.hid (heap_alloc_new w1 (.cells #[.slice p1 g.terms.length m1, .slice p2 g.nons.length m2, .slice p3 g.prods.length m3] 29))
  have HGS5 := Lib.hid (hG1.below hbx)
  have HBS5 := Lib.hid (hb1.trans (hbx.mono hb1.size))
  clear hbx
  generalize (w1.alloc (.cells #[.slice p1 g.terms.length m1, .slice p2 g.nons.length m2, .slice p3 g.prods.length m3] 29)) = S5 at *
  generalize hB5 : w1.heap.size = B5 at *
  have HB5 := Lib.hid hB5
  have HB1 := Lib.hid hb1
  clear hB5 hb1 hG1
  have HT5 := Lib.hid (HTT.out.below HBS5.out)
  have hpl : lsp.length = g.prods.length := by rw [← HGS5.out.p, List.length_map]
  have hat5 := HGS5.out.at
  rw [hpl] at hat5
  have HN := Lib.hid (HOK.out _ S5 hat5 HT5.out)
  have x0 := (blk_cell (i := 0) HQS5.out rfl).1
  have x1 := (blk_cell (i := 1) HQS5.out rfl).1
  have x2 := (blk_cell (i := 2) HQS5.out rfl).1
  have xl := heap_lt HQS5.out
  clear hat5 hpl HOK
  go_upto_region 5 with (go_at_call 26; (with_reducible refine HN.out.mono ?_); rintro e w2 ⟨B, G, sa, sc, ss, rfl, hb2, hps, _, hm2⟩)
  have hsl : ss.length = all.length := by rw [← hps]; simp [plS]
  have HM2 := Lib.hid hm2
  have HB2 := Lib.hid hb2
  have HPS := Lib.hid hps
  have hln := mlen_any B _ g G sa sc ss w2 hm2
  rw [hsl] at hln
  have HLN := Lib.hid hln
  obtain ⟨k, hk, hkl⟩ : ∃ k : Nat, at_ % (all.length : Int) = k ∧ k < all.length := ⟨(at_ % (all.length : Int)).toNat, by have := Int.emod_nonneg at_ (show (all.length : Int) ≠ 0 by omega); omega, by have := Int.emod_lt_of_pos at_ (show (0 : Int) < (all.length : Int) by omega); have := Int.emod_nonneg at_ (show (all.length : Int) ≠ 0 by omega); omega⟩
  have HWI := Lib.hid fun W => within_any at_ (all.length : Int) (by omega) (by omega) W
  rw [hk] at HWI
  have hit := mitems_any B _ g G sa sc ss (k : Int) w2 hm2
  rw [hps] at hit
  have HIT := Lib.hid hit
  clear hps hm2 hsl hb2 hk hln hit x0 x1 x2 xl HN
  go_upto_region 7 with (first
    | (go_at_call 27; (with_reducible refine HLN.out.mono ?_); rintro e wz ⟨rfl, hw⟩; rw [hw]; clear hw)
    | (go_at_call 12; (with_reducible refine (HWI.out _).mono ?_); rintro e wz ⟨rfl, hw⟩; rw [hw]; clear hw)
    | (go_at_call 31; (with_reducible refine HIT.out.mono ?_); rintro e w3 ⟨ia, ic, rfl, hio, hil, hb3⟩))
  obtain ⟨L, hL⟩ : ∃ L, L = itI all (k : Int) := ⟨_, rfl⟩
  rw [← hL] at hio hil ⊢
  have HLE := Lib.hid hL
  have HIO := Lib.hid hio
  have HB3 := Lib.hid hb3
  have hcap := hio.cap
  clear hL HIT HLN HWI hio hb3
  go_upto_region 8 with (at_builtin; refine wpList_appI2 rfl (.const (.slice none 0 0)) (.tmp 40) rfl w3.heap.size none 0 [] rfl (World.ownsRow_nil _ _ _ _) (Nat.le_refl _) ia L ic rfl HIO.out.its (by simp; omega) ?_; intro va vc w4 ho4 hg4; rw [List.nil_append] at ho4 ⊢)
  have hb4 : Below w3.heap.size w3 w4 := (Below.refl _ _).grown hg4 (Nat.le_refl _) fun q hq => by cases hq
  have HW4 := Lib.hid ho4
  have HA4 := Lib.hid (own_same HIO.out.own fun q _ hq => hb4.block q hq)
  have HB4 := Lib.hid (HB3.out.trans (hb4.mono HB3.out.size))
  have HZ23 := Lib.hid HB3.out.size
  have HAB := Lib.hid (show ∀ q, (Value.slice ia L.length ic).ownBlock = some q → q < w3.heap.size from fun q hq => (own_block HIO.out.own hq).2.1)
  clear ho4 hg4 hb4 HIO HB3
  go_wp2_with fail
  go_loopw [44] (fun i wr => ∃ j : Nat, j ≤ L.length ∧ i = .int .i64 j ∧ Hid (OwnE wr w2.heap.size 53 3 (.slice ia L.length ic) L.length) ∧ Hid (wr.ownsRow w3.heap.size 53 3 (.slice va L.length vc) L.length (itsV L)) ∧ Hid (Below w2.heap.size w2 wr)) (fun i _ => L.length - (intOf i).toNat)
  case atStart => exact ⟨0, Nat.zero_le _, rfl, Lib.hid ⟨_, HA4.out⟩, HW4, HB4⟩
  case round =>
    clear HA4 HW4 HB4
    obtain ⟨j, hj, rfl, HA, HW, HB⟩ := hrel
    rename World => w7
    by_cases hlt : j < L.length
    · have hlt' : (j : Int) < L.length := by omega
      obtain ⟨ga, rfl, hga, hgl, cur, hcur⟩ := HA.out.some (by omega)
      obtain ⟨u, c1, c2, c3⟩ := HA.out.cell (i := j * 3) (by omega)
      have hfar : ∀ q, (Value.slice va L.length vc).ownBlock = some q → q ≠ ga := fun q hq e => by
        have h1 := (own_block HW.out hq).1
        have h2 := HAB.out ga rfl
        omega
      have HA8 := Lib.hid (HA.out.set ga (j * 3) (.int .i64 99))
      have HW8 := Lib.hid (own_far (i := j * 3) (u := .int .i64 99) HW.out hfar)
      have HB8 := Lib.hid (HB.out.setCell (p := ⟨ga, j * 3, none⟩) hga (.int .i64 99))
      clear hfar hcur
      go_wp2
      go_roundw
      case rel => exact ⟨j + 1, by omega, by go_num, HA8, HW8, HB8⟩
      case measure => simp [intOf]; omega
    · have hge : ¬ (j : Int) < L.length := by omega
      have hgr := mgram_any B _ g G sa sc ss w7 (HM2.out.below HB.out) HCK.out
      unfold CopyTo at hgr
      have HGR := Lib.hid hgr
      have HB7 := Lib.hid HB.out
      clear HA hgr HB hlt hj
      go_upto_region 14 with (go_at_call 40; (with_reducible refine HGR.out.mono ?_); rintro e w8 ⟨hb8, h1, h2, h3, c1, c2, c3, lsh, rfl, hG8⟩)
      have hbx : Below w8.heap.size w8 (w8.alloc (.cells #[.slice h1 g.terms.length c1, .slice h2 g.nons.length c2, .slice h3 g.prods.length c3] 29)) := (Below.refl _ _).alloc (Nat.le_refl _) _
      have HQSH := Lib.hid (heap_alloc_new w8 (.cells #[.slice h1 g.terms.length c1, .slice h2 g.nons.length c2, .slice h3 g.prods.length c3] 29))
      have HGSH := Lib.hid (hG8.below hbx)
      have HBSH := Lib.hid (hb8.trans (hbx.mono hb8.size))
      clear hbx
      generalize (w8.alloc (.cells #[.slice h1 g.terms.length c1, .slice h2 g.nons.length c2, .slice h3 g.prods.length c3] 29)) = SH at *
      generalize hB11 : w8.heap.size = B11 at *
      have HZ78 := Lib.hid (show w7.heap.size ≤ B11 by rw [← hB11]; exact hb8.size)
      have HLB := Lib.hid (show B11 < SH.heap.size from heap_lt HQSH.out)
      clear hB11 hb8 hG8 HGR
      have HSP := Lib.hid (HGSH.out.spl HQSH.out)
      have hlh : lsh.length = g.prods.length := by rw [← HGSH.out.p, List.length_map]
      have HLH := Lib.hid hlh
      have HPP := Lib.hid HGSH.out.p
      obtain ⟨gp, rfl, _⟩ : ∃ gp, h3 = some ⟨gp, 0, none⟩ ∧ True := by
        obtain ⟨ys, hy, _⟩ := HSP.out.p
        obtain ⟨gp, e, _⟩ := own_some hy (by omega)
        exact ⟨gp, e, trivial⟩
      have x2 := (blk_cell (i := 2) HQSH.out rfl).1
      have xl := HLB.out
      clear hlh HGSH
      go_wp2_with fail
      go_loopw [57] (fun i wr => ∃ j : Nat, j ≤ g.prods.length ∧ i = .int .i64 j ∧ Hid (Spl wr w7.heap.size B11 g h1 h2 (some ⟨gp, 0, none⟩) c1 c2 c3 lsh) ∧ Hid (Below w7.heap.size w7 wr)) (fun i _ => g.prods.length - (intOf i).toNat)
      case atStart => exact ⟨0, Nat.zero_le _, rfl, HSP, HBSH⟩
      case round =>
        clear HSP HBSH HQSH x2 xl
        obtain ⟨j, hj, rfl, HS, HB⟩ := hrel
        rename World => w9
        have y0 := (blk_cell (i := 0) HS.out.q rfl).1
        have y2 := (blk_cell (i := 2) HS.out.q rfl).1
        have yl := heap_lt HS.out.q
        by_cases hlt : j < g.prods.length
        · have hlt' : (j : Int) < g.prods.length := by omega
          obtain ⟨x, hx⟩ : ∃ x, lsh[j]? = some x := ⟨_, List.getElem?_eq_getElem (by rw [HLH.out]; exact hlt)⟩
          have hxm := List.mem_of_getElem? hx
          obtain ⟨ys, hy, hz⟩ := HS.out.p
          obtain ⟨u, hu⟩ : ∃ u, ys[j * 2]? = some u := ⟨_, List.getElem?_eq_getElem (by rw [hy.1]; omega)⟩
          obtain ⟨z0, z1, z2⟩ := own_cellF hy hu
          have hgb := (own_block hy (g := gp) rfl).1
          have HS1 := Lib.hid (HS.out.left hlt (.int .i64 0))
          have HB1' := Lib.hid (HB.out.setCell (p := ⟨gp, j * 2, none⟩) hgb (.int .i64 0))
          clear hy hz hu
          go_upto_region 18 with fail
          clear z0 z1 z2 y0 y2 yl HS HB
          generalize w9.setCell ⟨gp, j * 2, none⟩ (.int .i64 0) = w10 at *
          have y2 := (blk_cell (i := 2) HS1.out.q rfl).1
          have yl := heap_lt HS1.out.q
          obtain ⟨ys, hy, hz⟩ := HS1.out.p
          obtain ⟨z0, _, z2⟩ := own_cellF hy (hz j x hx)
          have HX := Lib.hid hx
          have hxr := x.right.length
          clear hy hz
          go_wp2_with fail
          go_loopw [72] (fun i wr => ∃ jj : Nat, jj ≤ x.right.length ∧ i = .int .i64 jj ∧ Hid (Spl wr w7.heap.size B11 g h1 h2 (some ⟨gp, 0, none⟩) c1 c2 c3 lsh) ∧ Hid (Below w7.heap.size w7 wr)) (fun i _ => x.right.length - (intOf i).toNat)
          case atStart => exact ⟨0, Nat.zero_le _, rfl, HS1, HB1'⟩
          case round =>
            clear HS1 HB1' y2 yl z0 z2 ys
            obtain ⟨jj, hjj, rfl, HS, HB⟩ := hrel
            rename World => w11
            by_cases hlj : jj < x.right.length
            · have hlj' : (jj : Int) < x.right.length := by omega
              have hr := HS.out.r x hxm
              obtain ⟨gx, hgx, hgb2, hgl, cur, hcur⟩ := hr.some (by omega)
              rw [hgx] at hr
              obtain ⟨u, v0, v1, v2⟩ := hr.cell (i := jj) (by omega)
              obtain ⟨ys, hy, hz⟩ := HS.out.p
              obtain ⟨z0, _, z2⟩ := own_cellF hy (hz j x HX.out)
              rw [hgx] at z0
              have y2 := (blk_cell (i := 2) HS.out.q rfl).1
              have yl := heap_lt HS.out.q
              have HS2 := Lib.hid (HS.out.other (i := jj) hcur (by decide) (by decide) (.int .i64 0))
              have HB2' := Lib.hid (HB.out.setCell (p := ⟨gx, jj, none⟩) hgb2 (.int .i64 0))
              have hxs : x.right.length ≤ 1000000 := by
                have h1 := HCK.out
                have h2 := hr
                obtain ⟨xs, h3, h4⟩ := h2
                have : x.plain ∈ g.prods := by rw [← HPP.out]; exact List.mem_map.2 ⟨x, hxm, rfl⟩
                have := (HCK.out.pv _ this).2.1
                have e : x.plain.2 = x.right := rfl
                rw [e] at this
                omega
              clear hy hz hr hcur hgx
              go_wp2
              go_roundw
              case rel => exact ⟨jj + 1, by omega, by go_num, HS2, HB2'⟩
              case measure => simp [intOf]; omega
            · have hge : ¬ (jj : Int) < x.right.length := by omega
              go_wp2
              go_roundw
              case rel => exact ⟨j + 1, by omega, by go_num, HS, HB⟩
              case measure => simp [intOf]; omega
        · have hge : ¬ (j : Int) < g.prods.length := by omega
          clear hlt
          go_wp2_with fail
          go_loopw [88] (fun i wr => ∃ j : Nat, j ≤ g.terms.length ∧ i = .int .i64 j ∧ Hid (Spl wr w7.heap.size B11 g h1 h2 (some ⟨gp, 0, none⟩) c1 c2 c3 lsh) ∧ Hid (Below w7.heap.size w7 wr)) (fun i _ => g.terms.length - (intOf i).toNat)
          case atStart => exact ⟨0, Nat.zero_le _, rfl, HS, HB⟩
          case round =>
            clear HS HB y0 y2 yl hge hj
            obtain ⟨j, hj, rfl, HS, HB⟩ := hrel
            rename World => w12
            have y0 := (blk_cell (i := 0) HS.out.q rfl).1
            have yl := heap_lt HS.out.q
            by_cases hlt : j < g.terms.length
            · have hlt' : (j : Int) < g.terms.length := by omega
              have ht := HS.out.t
              obtain ⟨gt, hgt, hgb, hgl, cur, hcur⟩ := ht.some (by omega)
              rw [hgt] at ht y0
              obtain ⟨u, v0, v1, v2⟩ := ht.cell (i := j) (by omega)
              have HS2 := Lib.hid (HS.out.other (i := j) hcur (by decide) (by decide) (.string ⟨#[]⟩))
              have HB2' := Lib.hid (HB.out.setCell (p := ⟨gt, j, none⟩) hgb (.string ⟨#[]⟩))
              clear ht hcur
              go_wp2
              go_roundw
              case rel => exact ⟨j + 1, by omega, by go_num, HS2, HB2'⟩
              case measure => simp [intOf]; omega
            · have hge : ¬ (j : Int) < g.terms.length := by omega
              have HB12 := Lib.hid HB.out
              have HM12 := Lib.hid ((HM2.out.below HB7.out).below HB.out)
              have HW12 := Lib.hid (own_same HW.out fun q _ hq => HB.out.block q hq)
              have HV12 := Lib.hid (HB7.out.trans (HB.out.mono HB7.out.size))
              clear HS HB y0 yl hlt hj HW HB7 HLH
              go_upto_region 30 with (go_at_call 33; (with_reducible refine (HGO.out w12).mono ?_); rintro e w13 ⟨hb13, k1, k2, k3, e1, e2, e3, lsk, rfl, hG13⟩)
              have hbx : Below w13.heap.size w13 (w13.alloc (.cells #[.slice k1 g.terms.length e1, .slice k2 g.nons.length e2, .slice k3 g.prods.length e3] 29)) := (Below.refl _ _).alloc (Nat.le_refl _) _
              have HQS15 := Lib.hid (heap_alloc_new w13 (.cells #[.slice k1 g.terms.length e1, .slice k2 g.nons.length e2, .slice k3 g.prods.length e3] 29))
              have HGS15 := Lib.hid (hG13.below hbx)
              have HBS15 := Lib.hid (hb13.trans (hbx.mono hb13.size))
              clear hbx
              generalize (w13.alloc (.cells #[.slice k1 g.terms.length e1, .slice k2 g.nons.length e2, .slice k3 g.prods.length e3] 29)) = S15 at *
              generalize hB15 : w13.heap.size = B15 at *
              have HL15 := Lib.hid (show B15 < S15.heap.size from heap_lt HQS15.out)
              have HZ15 := Lib.hid (show w12.heap.size ≤ B15 by rw [← hB15]; exact hb13.size)
              clear hB15 hb13 hG13
              have hgr := mgram_any B _ g G sa sc ss S15 (HM12.out.below HBS15.out) HCK.out
              unfold CopyTo at hgr
              have HGR := Lib.hid hgr
              clear hgr
              go_upto_region 31 with (go_at_call 40; (with_reducible refine HGR.out.mono ?_); rintro e w14 ⟨hb14, o1, o2, o3, f1, f2, f3, lso, rfl, hG14⟩)
              have hbx : Below w14.heap.size w14 (w14.alloc (.cells #[.slice o1 g.terms.length f1, .slice o2 g.nons.length f2, .slice o3 g.prods.length f3] 29)) := (Below.refl _ _).alloc (Nat.le_refl _) _
              have HQS16 := Lib.hid (heap_alloc_new w14 (.cells #[.slice o1 g.terms.length f1, .slice o2 g.nons.length f2, .slice o3 g.prods.length f3] 29))
              have HGS16 := Lib.hid (hG14.below hbx)
              have HBS16 := Lib.hid (hb14.trans (hbx.mono hb14.size))
              clear hbx
              generalize (w14.alloc (.cells #[.slice o1 g.terms.length f1, .slice o2 g.nons.length f2, .slice o3 g.prods.length f3] 29)) = S16 at *
              generalize hB16 : w14.heap.size = B16 at *
              clear hB16 hb14 hG14 HGR
              have hlk : lsk.length = g.prods.length := by rw [← HGS15.out.p, List.length_map]
              have hlo : lso.length = g.prods.length := by rw [← HGS16.out.p, List.length_map]
              have HPL := Lib.hid (show lsk.map Lay.plain = lso.map Lay.plain by rw [HGS15.out.p, HGS16.out.p])
              obtain ⟨gk, rfl, _⟩ : ∃ gk, k3 = some ⟨gk, 0, none⟩ ∧ True := by
                have hq := HGS15.out.q
                rw [hlk] at hq
                obtain ⟨gk, e, _⟩ := own_some hq (by omega)
                exact ⟨gk, e, trivial⟩
              obtain ⟨go, rfl, _⟩ : ∃ go, o3 = some ⟨go, 0, none⟩ ∧ True := by
                have hq := HGS16.out.q
                rw [hlo] at hq
                obtain ⟨gk, e, _⟩ := own_some hq (by omega)
                exact ⟨gk, e, trivial⟩
              have HF16 := Lib.hid fun (W : World) (hW : Below S16.heap.size S16 W) => (show (W.cell? ⟨B16, 0, none⟩ = some (.slice o1 g.terms.length f1) ∧ W.cell? ⟨B16, 2, none⟩ = some (.slice (some ⟨go, 0, none⟩) g.prods.length f3) ∧ B16 < W.heap.size) ∧ (W.cell? ⟨B15, 0, none⟩ = some (.slice k1 g.terms.length e1) ∧ W.cell? ⟨B15, 2, none⟩ = some (.slice (some ⟨gk, 0, none⟩) g.prods.length e3) ∧ B15 < W.heap.size) from by
                have h16 := (hW.block _ (heap_lt HQS16.out)).trans HQS16.out
                have h15 := (hW.block _ (Nat.lt_of_lt_of_le HL15.out HBS16.out.size)).trans ((HBS16.out.block _ HL15.out).trans HQS15.out)
                exact ⟨⟨(blk_cell (i := 0) h16 rfl).1, (blk_cell (i := 2) h16 rfl).1, heap_lt h16⟩, (blk_cell (i := 0) h15 rfl).1, (blk_cell (i := 2) h15 rfl).1, heap_lt h15⟩)
              have HGK := Lib.hid (HGS15.out.below HBS16.out)
              have hr16 : Below S16.heap.size S16 S16 := Below.refl _ _
              obtain ⟨⟨x0, x1, x2⟩, y0, y1, y2⟩ := HF16.out S16 hr16
              have HR16 := Lib.hid hr16
              clear hr16
              go_wp2_with fail
              clear x0 x1 x2 y0 y1 y2
              go_loopw [119] (fun i wr => ∃ j : Nat, j ≤ g.prods.length ∧ i = .int .i64 j ∧ Hid (Below S16.heap.size S16 wr)) (fun i _ => g.prods.length - (intOf i).toNat)
              case atStart => exact ⟨0, Nat.zero_le _, rfl, HR16⟩
              case round =>
                clear HR16
                obtain ⟨j, hj, rfl, HB⟩ := hrel
                rename World => w17
                by_cases hlt : j < g.prods.length
                · have hlt' : (j : Int) < g.prods.length := by omega
                  obtain ⟨xk, hxk⟩ : ∃ x, lsk[j]? = some x := ⟨_, List.getElem?_eq_getElem (by rw [hlk]; exact hlt)⟩
                  obtain ⟨xo, hxo⟩ : ∃ x, lso[j]? = some x := ⟨_, List.getElem?_eq_getElem (by rw [hlo]; exact hlt)⟩
                  have hpq : xk.plain = xo.plain := by
                    have h1 : (lsk.map Lay.plain)[j]? = some xk.plain := by rw [List.getElem?_map, hxk]; rfl
                    have h2 : (lso.map Lay.plain)[j]? = some xo.plain := by rw [List.getElem?_map, hxo]; rfl
                    rw [HPL.out, h2] at h1
                    exact (Option.some.inj h1).symm
                  have hxr : xo.right.length ≤ 1000 := by
                    have : xo.plain ∈ g.prods := by rw [← HGS16.out.p]; exact List.mem_map.2 ⟨xo, List.mem_of_getElem? hxo, rfl⟩
                    have := (HCK.out.pv _ this).2.1
                    have e : xo.plain.2 = xo.right := rfl
                    rw [e] at this
                    omega
                  have HC := Lib.hid fun (W : World) (hW : Below S16.heap.size S16 W) => (show ((W.cell? ⟨go, j * 2, none⟩ = some (.int .i64 xo.left) ∧ W.cell? ⟨go, j * 2 + 1, none⟩ = some (.slice xo.addr xo.right.length xo.cap) ∧ go < W.heap.size) ∧ W.cell? ⟨gk, j * 2, none⟩ = some (.int .i64 xk.left) ∧ W.cell? ⟨gk, j * 2 + 1, none⟩ = some (.slice xk.addr xk.right.length xk.cap) ∧ gk < W.heap.size) ∧ Cells W xo.addr (nums xo.right) ∧ Cells W xk.addr (nums xk.right) from by
                    have ho := HGS16.out.below hW
                    have hk := HGK.out.below hW
                    have q1 := own_cellF ho.q (lays_at _ _ _ hxo).1
                    have q2 := own_cellF ho.q (lays_at _ _ _ hxo).2
                    have q3 := own_cellF hk.q (lays_at _ _ _ hxk).1
                    have q4 := own_cellF hk.q (lays_at _ _ _ hxk).2
                    exact ⟨⟨⟨q1.1, q2.1, q1.2.2⟩, q3.1, q4.1, q3.2.2⟩, (own_cells (ho.r xo (List.mem_of_getElem? hxo))).1, (own_cells (hk.r xk (List.mem_of_getElem? hxk))).1⟩)
                  clear hxk hxo
                  obtain ⟨kl, kr, ka, kc⟩ := xk
                  obtain ⟨ol, orr, oa, oc⟩ := xo
                  unfold Lay.plain at hpq
                  simp only [Prod.mk.injEq] at hpq
                  obtain ⟨rfl, rfl⟩ := hpq
                  simp only at HC hxr
                  have HSM := Lib.hid fun (W : World) (hW : Below S16.heap.size S16 W) => keepEqI oa ka oc kc kr W (HC.out W hW).2.1 (HC.out W hW).2.2 (by omega)
                  have HK36 := Lib.hid fun (W : World) (hW : Hid (Below S16.heap.size S16 W)) => (show (((W.cell? ⟨B16, 0, none⟩ = some (.slice o1 g.terms.length f1) ∧ W.cell? ⟨B16, 2, none⟩ = some (.slice (some ⟨go, 0, none⟩) g.prods.length f3) ∧ B16 < W.heap.size) ∧ (W.cell? ⟨B15, 0, none⟩ = some (.slice k1 g.terms.length e1) ∧ W.cell? ⟨B15, 2, none⟩ = some (.slice (some ⟨gk, 0, none⟩) g.prods.length e3) ∧ B15 < W.heap.size)) ∧ ((W.cell? ⟨go, j * 2, none⟩ = some (.int .i64 kl) ∧ W.cell? ⟨go, j * 2 + 1, none⟩ = some (.slice oa kr.length oc) ∧ go < W.heap.size) ∧ W.cell? ⟨gk, j * 2, none⟩ = some (.int .i64 kl) ∧ W.cell? ⟨gk, j * 2 + 1, none⟩ = some (.slice ka kr.length kc) ∧ gk < W.heap.size)) ∧ Hid (Below S16.heap.size S16 W) from ⟨⟨HF16.out W hW.out, (HC.out W hW.out).1⟩, hW⟩)
                  have HKN := Lib.hid fun (W : World) (nn : Nat) (hW : Hid (Below S16.heap.size S16 W)) => Lib.hid (below_drews hW.out nn)
                  have HBD := Lib.hid (Lib.hid HB.out.drew)
                  have hbl : (kl != kl) = false := by simp
                  go_upto_region 36 with fail
                  go_region_held3 (fun W => (((W.cell? ⟨B16, 0, none⟩ = some (.slice o1 g.terms.length f1) ∧ W.cell? ⟨B16, 2, none⟩ = some (.slice (some ⟨go, 0, none⟩) g.prods.length f3) ∧ B16 < W.heap.size) ∧ (W.cell? ⟨B15, 0, none⟩ = some (.slice k1 g.terms.length e1) ∧ W.cell? ⟨B15, 2, none⟩ = some (.slice (some ⟨gk, 0, none⟩) g.prods.length e3) ∧ B15 < W.heap.size)) ∧ ((W.cell? ⟨go, j * 2, none⟩ = some (.int .i64 kl) ∧ W.cell? ⟨go, j * 2 + 1, none⟩ = some (.slice oa kr.length oc) ∧ go < W.heap.size) ∧ W.cell? ⟨gk, j * 2, none⟩ = some (.int .i64 kl) ∧ W.cell? ⟨gk, j * 2 + 1, none⟩ = some (.slice ka kr.length kc) ∧ gk < W.heap.size)) ∧ Hid (Below S16.heap.size S16 W))
                    (first | assumption | (exact HK36.out _ HBD.out) | (exact HK36.out _ (HKN.out w17 _ HB)) | (exact HK36.out _ (HKN.out _ _ (And.right (show _ ∧ Hid (Below S16.heap.size S16 _) by assumption)))) | go_keep)
                    (first | (go_at_call 17; (with_reducible refine (HSM.out _ (Hid.out (And.right (show _ ∧ Hid (Below S16.heap.size S16 _) by assumption)))).mono ?_); rintro e wz ⟨rfl, nn, rfl⟩))
                  all_goals
                    go_wp2
                    go_roundw
                    case rel => exact ⟨j + 1, by omega, by go_num, HKN.out w17 _ HB⟩
                    case measure => simp [intOf]; omega
                · have hge : ¬ (j : Int) < g.prods.length := by omega
                  have hv2 := HB2.out.size
                  have hv12 := HV12.out.size
                  have hv15 := HBS15.out.size
                  have hv16 := HBS16.out.size
                  have HV17 := Lib.hid (show Below S5.heap.size S5 w17 from (((HB2.out.trans (HV12.out.mono hv2)).trans (HBS15.out.mono (by omega))).trans (HBS16.out.mono (by omega))).trans (HB.out.mono (by omega)))
                  have HM17 := Lib.hid (((HM12.out.below HBS15.out).below HBS16.out).below HB.out)
                  have HK17 := Lib.hid (HGK.out.below HB.out)
                  have HWA17 := Lib.hid (own_same (own_same (own_same HW12.out fun q _ hq => HBS15.out.block q hq) fun q _ hq => HBS16.out.block q hq) fun q _ hq => HB.out.block q hq)
                  have HZ5 := Lib.hid (show S5.heap.size ≤ B15 ∧ B15 < w17.heap.size ∧ S5.heap.size ≤ w12.heap.size ∧ S5.heap.size ≤ w3.heap.size from ⟨by have := HZ15.out; omega, Nat.lt_of_lt_of_le HL15.out (Nat.le_trans HBS16.out.size HB.out.size), by omega, by have := HZ23.out; omega⟩)
                  have HQ15 := Lib.hid ((HB.out.block _ (Nat.lt_of_lt_of_le HL15.out HBS16.out.size)).trans ((HBS16.out.block _ HL15.out).trans HQS15.out))
                  have hlp : lsp.length = g.prods.length := by rw [← HGS5.out.p, List.length_map]
                  have hqp := HGS5.out.q
                  rw [hlp] at hqp
                  obtain ⟨gq, rfl, hgq1, hgq2, _⟩ := own_some hqp (by omega)
                  have HE17 := Lib.hid (show OwnE w17 w.heap.size 68 2 (.slice (some ⟨gq, 0, none⟩) g.prods.length m3) g.prods.length from ⟨_, own_same hqp fun q _ hq => HV17.out.block q hq⟩)
                  have HQ5 := Lib.hid ((HV17.out.block _ (heap_lt HQS5.out)).trans HQS5.out)
                  have HA17 := Lib.hid (Above.refl S5.heap.size w17)
                  have HW17 := Lib.hid (HBS5.out.trans (HV17.out.mono HBS5.out.size))
                  have z2 := (blk_cell (i := 2) HQ5.out rfl).1
                  have zl := heap_lt HQ5.out
                  clear hv2 hv12 hv15 hv16 hqp hlp HB HPL HF16 hlk hlo hlt hj
                  go_wp2_with fail
                  clear z2 zl
                  go_loopw [155] (fun i wr => ∃ j : Nat, j ≤ g.prods.length ∧ i = .int .i64 j ∧ Hid (OwnE wr w.heap.size 68 2 (.slice (some ⟨gq, 0, none⟩) g.prods.length m3) g.prods.length) ∧ Hid (wr.heap[B5]? = some (.cells #[.slice p1 g.terms.length m1, .slice p2 g.nons.length m2, .slice (some ⟨gq, 0, none⟩) g.prods.length m3] 29)) ∧ Hid (Above S5.heap.size w17 wr) ∧ Hid (Below w.heap.size w wr)) (fun i _ => g.prods.length - (intOf i).toNat)
                  case atStart => exact ⟨0, Nat.zero_le _, rfl, HE17, HQ5, HA17, HW17⟩
                  case round =>
                    clear HE17 HQ5 HA17 HW17
                    obtain ⟨j, hj, rfl, HE, HQ, HA, HW⟩ := hrel
                    rename World => w18
                    by_cases hlt : j < g.prods.length
                    · have hlt' : (j : Int) < g.prods.length := by omega
                      have z2 := (blk_cell (i := 2) HQ.out rfl).1
                      have zl := heap_lt HQ.out
                      obtain ⟨u, v0, v1, v2⟩ := HE.out.cell (i := j * 2) (by omega)
                      obtain ⟨_, e2, _, _, cur, hcur⟩ := HE.out.some (by omega)
                      injection e2 with e2
                      injection e2 with e2 _ _
                      subst e2
                      have HE2 := Lib.hid (HE.out.set gq (j * 2) (.int .i64 0))
                      have HQ2 := Lib.hid ((Below.heap_setCell w18 ⟨gq, j * 2, none⟩ (.int .i64 0) B5 (obj_ne HQ.out hcur (by decide))).trans HQ.out)
                      have HA2 := Lib.hid (HA.out.set (i := j * 2) (u := .int .i64 0) hgq2)
                      have HW2 := Lib.hid (HW.out.setCell (p := ⟨gq, j * 2, none⟩) hgq1 (.int .i64 0))
                      clear hcur
                      go_wp2
                      go_roundw
                      case rel => exact ⟨j + 1, by omega, by go_num, HE2, HQ2, HA2, HW2⟩
                      case measure => simp [intOf]; omega
                    · have hge : ¬ (j : Int) < g.prods.length := by omega
                      have HM18 := Lib.hid (MacAt.above HA.out HM17.out (Nat.le_refl _))
                      have HK18 := Lib.hid (GrO.above HA.out HK17.out HZ5.out.2.2.1)
                      have HWA18 := Lib.hid (own_above HA.out HWA17.out HZ5.out.2.2.2)
                      have HQ18 := Lib.hid ((HA.out.block _ HZ5.out.1 HZ5.out.2.1).trans HQ15.out)
                      have HT18 := Lib.hid (HTT.out.below HW.out)
                      have hgr := mgram_any B _ g G sa sc ss w18 HM18.out HCK.out
                      unfold CopyTo at hgr
                      have HGR := Lib.hid hgr
                      clear hgr HE HQ HA HM17 HK17 HWA17 HQ15 hlt hj
                      go_upto_region 45 with (go_at_call 40; (with_reducible refine HGR.out.mono ?_); rintro e w20 ⟨hb20, q1, q2, q3, r1, r2, r3, lsq, rfl, hG20⟩)
                      have hbx : Below w20.heap.size w20 (w20.alloc (.cells #[.slice q1 g.terms.length r1, .slice q2 g.nons.length r2, .slice q3 g.prods.length r3] 29)) := (Below.refl _ _).alloc (Nat.le_refl _) _
                      have HQS19 := Lib.hid (heap_alloc_new w20 (.cells #[.slice q1 g.terms.length r1, .slice q2 g.nons.length r2, .slice q3 g.prods.length r3] 29))
                      have HGS19 := Lib.hid (hG20.below hbx)
                      have HBS19 := Lib.hid (hb20.trans (hbx.mono hb20.size))
                      clear hbx
                      generalize (w20.alloc (.cells #[.slice q1 g.terms.length r1, .slice q2 g.nons.length r2, .slice q3 g.prods.length r3] 29)) = S19 at *
                      generalize hB19 : w20.heap.size = B19 at *
                      clear hB19 hb20 hG20 HGR
                      have hlq : lsq.length = g.prods.length := by rw [← HGS19.out.p, List.length_map]
                      have hlk : lsk.length = g.prods.length := by rw [← HK18.out.p, List.length_map]
                      obtain ⟨xq, hxq⟩ : ∃ x, lsq[0]? = some x := ⟨_, List.getElem?_eq_getElem (by rw [hlq]; omega)⟩
                      obtain ⟨xk, hxk⟩ : ∃ x, lsk[0]? = some x := ⟨_, List.getElem?_eq_getElem (by rw [hlk]; omega)⟩
                      have hleft : xk.left = xq.left := by
                        have h1 : (lsk.map Lay.plain)[0]? = some xk.plain := by rw [List.getElem?_map, hxk]; rfl
                        have h2 : (lsq.map Lay.plain)[0]? = some xq.plain := by rw [List.getElem?_map, hxq]; rfl
                        rw [HK18.out.p] at h1
                        rw [HGS19.out.p, h1] at h2
                        exact congrArg Prod.fst (Option.some.inj h2)
                      obtain ⟨gz, rfl, _⟩ : ∃ gz, q3 = some ⟨gz, 0, none⟩ ∧ True := by
                        have hq := HGS19.out.q
                        rw [hlq] at hq
                        obtain ⟨gz, e, _⟩ := own_some hq (by omega)
                        exact ⟨gz, e, trivial⟩
                      obtain ⟨l0, hl0⟩ : ∃ l0, l0 = xq.left := ⟨_, rfl⟩
                      have HFX := Lib.hid fun (W : World) (hW : Below S19.heap.size S19 W) => (show ((W.cell? ⟨B19, 0, none⟩ = some (.slice q1 g.terms.length r1) ∧ W.cell? ⟨B19, 2, none⟩ = some (.slice (some ⟨gz, 0, none⟩) g.prods.length r3) ∧ B19 < W.heap.size) ∧ (W.cell? ⟨B15, 0, none⟩ = some (.slice k1 g.terms.length e1) ∧ W.cell? ⟨B15, 2, none⟩ = some (.slice (some ⟨gk, 0, none⟩) g.prods.length e3) ∧ B15 < W.heap.size)) ∧ (W.cell? ⟨gz, 0, none⟩ = some (.int .i64 l0) ∧ gz < W.heap.size) ∧ W.cell? ⟨gk, 0, none⟩ = some (.int .i64 l0) ∧ gk < W.heap.size from by
                        have h19 := (hW.block _ (heap_lt HQS19.out)).trans HQS19.out
                        have h15 := (hW.block _ (Nat.lt_of_lt_of_le (heap_lt HQ18.out) HBS19.out.size)).trans ((HBS19.out.block _ (heap_lt HQ18.out)).trans HQ18.out)
                        have hz := own_cellF (HGS19.out.below hW).q (lays_at _ _ _ hxq).1
                        have hk := own_cellF ((HK18.out.below HBS19.out).below hW).q (lays_at _ _ _ hxk).1
                        rw [hleft, ← hl0] at hk
                        rw [← hl0] at hz
                        exact ⟨⟨⟨(blk_cell (i := 0) h19 rfl).1, (blk_cell (i := 2) h19 rfl).1, heap_lt h19⟩, (blk_cell (i := 0) h15 rfl).1, (blk_cell (i := 2) h15 rfl).1, heap_lt h15⟩, ⟨hz.1, hz.2.2⟩, hk.1, hk.2.2⟩)
                      have HXI := Lib.hid fun (W : World) (hW : Below S19.heap.size S19 W) => (by
                        have h := mitems_any B _ g G sa sc ss (k : Int) W ((HM18.out.below HBS19.out).below hW)
                        rw [HPS.out, ← HLE.out] at h
                        exact h : Calls Tryd.prog 31 #[.pointer (some ⟨B, 0, none⟩), .int .i64 k] W (fun e w' => ∃ (a : Option Addr) (c : Nat), e = .returned (.slice a L.length c) ∧ OwnI w' W.heap.size a c L ∧ L.length ≤ 11200 ∧ Below W.heap.size W w'))
                      have HXS := Lib.hid fun (W : World) (hW : Below S19.heap.size S19 W) (a : Option Addr) (c : Nat) (ha : ItsAt W a L) => (by
                        have h := isame_any a va c vc L L W ha (own_cells (own_same (own_same HWA18.out fun q _ hq => HBS19.out.block q hq) fun q _ hq => hW.block q hq)).1 (by omega) (by omega)
                        rw [decide_eq_true rfl] at h
                        exact h : Calls Tryd.prog 37 #[.slice a L.length c, .slice va L.length vc] W (fun e w' => e = .returned (.bool true) ∧ ∃ n, w' = W.drewN n))
                      have HXT := Lib.hid fun (W : World) (hW : Below S19.heap.size S19 W) => keepEqS q1 k1 r1 e1 g.terms W (own_cells (HGS19.out.below hW).t).1 (own_cells ((HK18.out.below HBS19.out).below hW).t).1 (by omega)
                      have HXW := Lib.hid fun (W : World) (hW : Below S19.heap.size S19 W) => wakes12_any W ((HT18.out.below HBS19.out).below hW)
                      have HWS := Lib.hid (HW.out.trans (HBS19.out.mono HW.out.size))
                      have hr19 : Below S19.heap.size S19 S19 := Below.refl _ _
                      have HBD := Lib.hid (Lib.hid hr19.drew)
                      have HK45 := Lib.hid fun (W : World) (hW : Hid (Below S19.heap.size S19 W)) => (show (((W.cell? ⟨B19, 0, none⟩ = some (.slice q1 g.terms.length r1) ∧ W.cell? ⟨B19, 2, none⟩ = some (.slice (some ⟨gz, 0, none⟩) g.prods.length r3) ∧ B19 < W.heap.size) ∧ (W.cell? ⟨B15, 0, none⟩ = some (.slice k1 g.terms.length e1) ∧ W.cell? ⟨B15, 2, none⟩ = some (.slice (some ⟨gk, 0, none⟩) g.prods.length e3) ∧ B15 < W.heap.size)) ∧ (W.cell? ⟨gz, 0, none⟩ = some (.int .i64 l0) ∧ gz < W.heap.size) ∧ W.cell? ⟨gk, 0, none⟩ = some (.int .i64 l0) ∧ gk < W.heap.size) ∧ Hid (Below S19.heap.size S19 W) from ⟨HFX.out W hW.out, hW⟩)
                      have HKN := Lib.hid fun (W : World) (nn : Nat) (hW : Hid (Below S19.heap.size S19 W)) => Lib.hid (below_drews hW.out nn)
                      have HKT := Lib.hid fun (W W' : World) (hW : Hid (Below S19.heap.size S19 W)) (h : Below W.heap.size W W') => Lib.hid (hW.out.trans (h.mono hW.out.size))
                      have hnp0 : (0 : Int) < (g.prods.length : Int) := by omega
                      have hbl : (l0 == l0) = true := by simp
                      have hnp2 : 0 < g.prods.length := by omega
                      have hnp3 : g.prods ≠ [] := List.length_pos_iff.1 hnp2
                      have hnp4 : ¬ g.prods = [] := hnp3
                      clear hr19 hlq hlk hxq hxk hleft hl0
                      go_region_held3 (fun W => (((W.cell? ⟨B19, 0, none⟩ = some (.slice q1 g.terms.length r1) ∧ W.cell? ⟨B19, 2, none⟩ = some (.slice (some ⟨gz, 0, none⟩) g.prods.length r3) ∧ B19 < W.heap.size) ∧ (W.cell? ⟨B15, 0, none⟩ = some (.slice k1 g.terms.length e1) ∧ W.cell? ⟨B15, 2, none⟩ = some (.slice (some ⟨gk, 0, none⟩) g.prods.length e3) ∧ B15 < W.heap.size)) ∧ (W.cell? ⟨gz, 0, none⟩ = some (.int .i64 l0) ∧ gz < W.heap.size) ∧ W.cell? ⟨gk, 0, none⟩ = some (.int .i64 l0) ∧ gk < W.heap.size) ∧ Hid (Below S19.heap.size S19 W))
                        (first | assumption | (exact HK45.out _ HBD.out) | (exact HK45.out _ HBZ.out) | (exact HK45.out _ (HKN.out wz _ HBZ.out)) | (exact HK45.out _ HBE.out) | go_keep)
                        (first
                          | (go_at_call 31; (with_reducible refine (HXI.out _ (Hid.out (And.right (show _ ∧ Hid (Below S19.heap.size S19 _) by assumption)))).mono ?_); rintro e wz ⟨aw, cw, rfl, how, hlw, hbw⟩; have HBZ := Lib.hid (HKT.out _ _ (And.right (show _ ∧ Hid (Below S19.heap.size S19 _) by assumption)) hbw))
                          | (go_at_call 37; (with_reducible refine (HXS.out wz HBZ.out.out aw cw how.its).mono ?_); rintro e ws ⟨rfl, n1, rfl⟩)
                          | (go_at_call 41; (with_reducible refine (HXT.out _ (Hid.out (And.right (show _ ∧ Hid (Below S19.heap.size S19 _) by assumption)))).mono ?_); rintro e ws ⟨rfl, n2, rfl⟩)
                          | (go_at_call 32; (with_reducible refine (HXW.out _ (Hid.out (And.right (show _ ∧ Hid (Below S19.heap.size S19 _) by assumption)))).mono ?_); rintro e we ⟨rfl, hbe⟩; have HBE := Lib.hid (HKT.out _ _ (HKN.out wz _ HBZ.out) hbe)))
                      all_goals
                        go_wp2
                        go_ret
                        exact ⟨rfl, HWS.out.trans (HBE.out.out.mono HWS.out.size)⟩
end Go.Proofs.YtejjdfmobiegdaaDoor
