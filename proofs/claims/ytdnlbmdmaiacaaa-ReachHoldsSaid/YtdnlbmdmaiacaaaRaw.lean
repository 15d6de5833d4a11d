/- A raw grammar as it lies; Any: a grammar of small numbers. -/
import Derived.Test.YtdnlbmdmaiacaaaPut
import Derived.Test.YtdnlbmdmaiacaaaWake
import Derived.Deep.CutRange
import Derived.Deep.RegionLaw
namespace Go.Proofs.Ytdnlbmdmaiacaaa
open Go.RowKit
open Doc

/-- A row of numbers as it lies. -/
structure RowL where
  addr : Option Addr
  cap : Nat
  row : List Int
def rowVs (l : List RowL) : List Value := l.map fun r => .slice r.addr r.row.length r.cap
theorem rowVs_at {l : List RowL} {j : Nat} {r : RowL} (h : l[j]? = some r) : (rowVs l)[j]? = some (.slice r.addr r.row.length r.cap) := by
  unfold rowVs; rw [List.getElem?_map, h]; rfl
structure RawX where
  pick : Int
  terms : Int
  nons : Int
  how : Int
  rows : List RowL
  ra : Option Addr
  rc : Nat
  word : ByteArray
def RawX.v (x : RawX) : Value := .agg #[.int .i64 x.pick, .int .i64 x.terms, .int .i64 x.nons, .int .i64 x.how, .slice x.ra x.rows.length x.rc, .string x.word]
def RawX.plain (x : RawX) : List (List Int) := x.rows.map (·.row)
structure RawAt (w : World) (x : RawX) : Prop where
  cells : Cells w x.ra (rowVs x.rows)
  each : ∀ r ∈ x.rows, Cells w r.addr (nums r.row)
  wide : ∀ r ∈ x.rows, ∀ y ∈ r.row, -9223372036854775808 ≤ y ∧ y ≤ 9223372036854775807
theorem RawAt.below {w w' : World} {x : RawX} (h : RawAt w x) (hb : Below w.heap.size w w') : RawAt w' x := ⟨h.cells.below hb, fun r hr => (h.each r hr).below hb, h.wide⟩

/-- What Any makes of a raw one. -/
def RawX.any (x : RawX) : Gr := anyF x.terms x.nons x.plain

theorem wrap_tdiv (z : Int) (h1 : -9223372036854775808 ≤ z) (h2 : z ≤ 9223372036854775807) : IntKind.i64.wrap (z.tdiv 16) = z.tdiv 16 := by
  have h : -9223372036854775808 ≤ z.tdiv 16 ∧ z.tdiv 16 ≤ 9223372036854775807 := by
    rcases Int.le_total 0 z with h | h
    · rw [Int.tdiv_eq_ediv_of_nonneg h]; omega
    · have e : z.tdiv 16 = -((-z) / 16) := by
        rw [← Int.tdiv_eq_ediv_of_nonneg (show 0 ≤ -z by omega), Int.neg_tdiv, Int.neg_neg]
      rw [e]; omega
  rw [IntKind.wrap_i64]; omega
theorem within3 (v : Int) : ∃ d : Nat, v % 3 = d ∧ d < 3 := ⟨(v % 3).toNat, by omega, by omega⟩

/-- A grammar in a block, its rows behind F. -/
structure GBlk (b F : Nat) (w : World) (ts ns : List (List UInt8)) (ls : List Lay) (at_ an ap : Option Addr) (ct cn cp : Nat) : Prop where
  blk : w.heap[b]? = some (.cells #[.slice at_ ts.length ct, .slice an ns.length cn, .slice ap ls.length cp] 26)
  rws : Rws F w ts ns ls at_ an ap ct cn cp
  lt : b < F
  le : F ≤ w.heap.size
theorem GBlk.below {b F : Nat} {w : World} {ts ns : List (List UInt8)} {ls : List Lay} {at_ an ap : Option Addr} {ct cn cp : Nat} (h : GBlk b F w ts ns ls at_ an ap ct cn cp) {w' : World} (hb : Below w.heap.size w w') : GBlk b F w' ts ns ls at_ an ap ct cn cp :=
  ⟨(hb.block b (heap_lt h.blk)).trans h.blk, h.rws.below hb, h.lt, Nat.le_trans h.le hb.size⟩

theorem baseP_nons (g : Gr) : ∀ i, (baseP g i).nons.length = g.nons.length
  | 0 => rfl
  | i + 1 => by
    show (putF _ _ _).nons.length = _
    unfold putF
    split
    · exact baseP_nons g i
    · exact baseP_nons g i
theorem rowsP_nons (g : Gr) (rows : List (List Int)) : ∀ i, (rowsP g rows i).nons.length = g.nons.length
  | 0 => rfl
  | i + 1 => by
    simp only [rowsP]
    split
    · exact rowsP_nons g rows i
    · unfold putF
      split
      · exact rowsP_nons g rows i
      · exact rowsP_nons g rows i
theorem gblk_put {b6 F B : Nat} {S1 wr W1 w2 : World} {ts ns : List (List UInt8)} {ls ls2 : List Lay} {at_ an ap ap2 : Option Addr} {ct cn cp cp2 : Nat} (HG : GBlk b6 F wr ts ns ls at_ an ap ct cn cp) (hW : Below wr.heap.size wr W1)
    (hr2 : Rws F w2 ts ns ls2 at_ an ap2 ct cn cp2) (hg2 : W1.grownBy w2 (Value.slice ap ls.length cp).ownBlock) (h62 : w2.heap[b6]? = some (.cells #[.slice at_ ts.length ct, .slice an ns.length cn, .slice ap ls.length cp] 26)) (hbe : Below B S1 wr) (hS : B ≤ b6) :
    GBlk b6 F (((w2.setCell ⟨b6, 0, none⟩ (.slice at_ ts.length ct)).setCell ⟨b6, 1, none⟩ (.slice an ns.length cn)).setCell ⟨b6, 2, none⟩ (.slice ap2 ls2.length cp2)) ts ns ls2 at_ an ap2 ct cn cp2 ∧
    Below B S1 (((w2.setCell ⟨b6, 0, none⟩ (.slice at_ ts.length ct)).setCell ⟨b6, 1, none⟩ (.slice an ns.length cn)).setCell ⟨b6, 2, none⟩ (.slice ap2 ls2.length cp2)) := by
  have hlt := HG.lt
  have hle := HG.le
  refine ⟨⟨store3 h62 _ _ _, hr2.keep fun g hg _ => store3_far _ _ _ g (by omega), hlt, ?_⟩, ?_⟩
  · have h1 := hW.size
    have h2 := hg2.size
    simp; omega
  · refine store3_below ?_ hS _ _ _
    have h1 := hW.size
    exact ((hbe.trans (hW.mono (by omega))).grown hg2 (by omega) (fun k hk => by have := (own_block HG.rws.p hk).1; omega))
theorem put_len {ts ns : List (List UInt8)} {ls ls2 : List Lay} {left : Int} {row : List Int} (h : (⟨ts, ns, ls2.map Lay.plain⟩ : Gr) = putF ⟨ts, ns, ls.map Lay.plain⟩ left row) : ls2.length ≤ ls.length + 1 := by
  have h1 := (putF_len ⟨ts, ns, ls.map Lay.plain⟩ left row).1
  rw [← h] at h1
  simpa using h1

theorem own_sets {F b6 : Nat} {W : World} {e : TypeId} {size n : Nat} {v : Value} {xs : List Value} (h : W.ownsRow F e size v n xs) (hb : b6 < F) (u0 u1 : Value) : ((W.setCell ⟨b6, 0, none⟩ u0).setCell ⟨b6, 1, none⟩ u1).ownsRow F e size v n xs :=
  own_same h fun g hg _ => by
    have := (own_block h hg).1
    rw [Below.heap_setCell _ _ _ _ (show g ≠ b6 by omega), Below.heap_setCell _ _ _ _ (show g ≠ b6 by omega)]

set_option maxRecDepth 100000 in
set_option maxHeartbeats 8000000 in
theorem any_any (x : RawX) (w : World) (hx : RawAt w x) :
    Calls Try.prog 43 #[x.v] w fun e w' => Below w.heap.size w w' ∧ ∃ (F : Nat) (ts ns : List (List UInt8)) (ls : List Lay) (at_ an ap : Option Addr) (ct cn cp : Nat), e = .returned (.agg #[.slice at_ ts.length ct, .slice an ns.length cn, .slice ap ls.length cp]) ∧ w.heap.size ≤ F ∧ Rws F w' ts ns ls at_ an ap ct cn cp ∧ (⟨ts, ns, ls.map Lay.plain⟩ : Gr) = x.any ∧ F ≤ w'.heap.size := by
  obtain ⟨xp, xt, xn, xh, rows, xa, xc, word⟩ := x
  unfold RawX.v
  simp only
  obtain ⟨i0, hi0, hz0, hz1, hz2⟩ := info_of infoS
  obtain ⟨d1, hd1, l1⟩ := within3 xt
  obtain ⟨d2, hd2, l2⟩ := within3 xn
  have HX := Lib.hid hx
  clear hx
  have hblk := heap_alloc_new w (.cells #[.int .i64 xp, .int .i64 xt, .int .i64 xn, .int .i64 xh, .slice xa rows.length xc, .string word] 46)
  have hbl0 : Below w.heap.size w (w.alloc (.cells #[.int .i64 xp, .int .i64 xt, .int .i64 xn, .int .i64 xh, .slice xa rows.length xc, .string word] 46)) := (Below.refl _ _).alloc (Nat.le_refl _) _
  have hxw := hbl0
  obtain ⟨x1, y1⟩ := blk_cell (i := 1) (u := .int .i64 xt) hblk rfl
  obtain ⟨x2, y2⟩ := blk_cell (i := 2) (u := .int .i64 xn) hblk rfl
  obtain ⟨x4, y4⟩ := blk_cell (i := 4) (u := .slice xa rows.length xc) hblk rfl
  have hzz : w.heap.size < (w.alloc (.cells #[.int .i64 xp, .int .i64 xt, .int .i64 xn, .int .i64 xh, .slice xa rows.length xc, .string word] 46)).heap.size := heap_lt hblk
  have HBLK := Lib.hid hblk
  have HBL0 := Lib.hid hbl0
  clear hblk hbl0 y1 y2 y4 hxw
  go_enter Try.func43, Try.ntmps43
  go_wp2
  have hsz1 : ((w.alloc (.cells #[.int .i64 xp, .int .i64 xt, .int .i64 xn, .int .i64 xh, .slice xa rows.length xc, .string word] 46)).alloc (.cells #[.slice none 0 0, .slice none 0 0, .slice none 0 0] 26)).heap.size = w.heap.size + 2 := by simp
  have q0 := (Below.heap_alloc (w.alloc (.cells #[.int .i64 xp, .int .i64 xt, .int .i64 xn, .int .i64 xh, .slice xa rows.length xc, .string word] 46)) (.cells #[.slice none 0 0, .slice none 0 0, .slice none 0 0] 26) w.heap.size hzz).trans HBLK.out
  have q1 : ((w.alloc (.cells #[.int .i64 xp, .int .i64 xt, .int .i64 xn, .int .i64 xh, .slice xa rows.length xc, .string word] 46)).alloc (.cells #[.slice none 0 0, .slice none 0 0, .slice none 0 0] 26)).heap[w.heap.size + 1]? = some (.cells #[.slice none 0 0, .slice none 0 0, .slice none 0 0] 26) := by
    have := heap_alloc_new (w.alloc (.cells #[.int .i64 xp, .int .i64 xt, .int .i64 xn, .int .i64 xh, .slice xa rows.length xc, .string word] 46)) (.cells #[.slice none 0 0, .slice none 0 0, .slice none 0 0] 26)
    simpa using this
  have hB := HBL0.out.alloc (by simp) (.cells #[.slice none 0 0, .slice none 0 0, .slice none 0 0] 26)
  have HS1 := Lib.hid hsz1
  have Q0 := Lib.hid q0
  have Q1 := Lib.hid q1
  have HB := Lib.hid hB
  clear hsz1 q0 q1 hB x1 x2 x4 hzz HBLK HBL0
  generalize (w.alloc (.cells #[.int .i64 xp, .int .i64 xt, .int .i64 xn, .int .i64 xh, .slice xa rows.length xc, .string word] 46)).alloc (.cells #[.slice none 0 0, .slice none 0 0, .slice none 0 0] 26) = S at *
  generalize hB0 : w.heap.size = B0 at *
  have HB0 := Lib.hid hB0
  clear hB0
  have x1 := (blk_cell (i := 1) (u := .int .i64 xt) Q0.out rfl).1
  have x2 := (blk_cell (i := 2) (u := .int .i64 xn) Q0.out rfl).1
  have hB0 : B0 < S.heap.size := heap_lt Q0.out
  have HW1 := Lib.hid fun a => (within_any xt 3 (by omega) (by omega) (S.drewN a)).mono fun e w' ⟨he, hw⟩ => (⟨he.trans (by rw [hd1]), a, hw⟩ : e = Ending.returned (.int .i64 d1) ∧ ∃ n, w' = S.drewN n)
  have HW2 := Lib.hid fun a => (within_any xn 3 (by omega) (by omega) (S.drewN a)).mono fun e w' ⟨he, hw⟩ => (⟨he.trans (by rw [hd2]), a, hw⟩ : e = Ending.returned (.int .i64 d2) ∧ ∃ n, w' = S.drewN n)
  have HD1 := Lib.hid hd1
  have HD2 := Lib.hid hd2
  clear hd1 hd2
  go_quiet ((go_at_call 15; first | with_reducible exact HW1.out _ | with_reducible exact HW2.out _))
  clear HW1 HW2 x1 x2
  rw [show 1 + (d1 : Int) = ((1 + d1 : Nat) : Int) by omega, show 1 + (d2 : Int) = ((1 + d2 : Nat) : Int) by omega]
  have ht : anyT xt = 1 + d1 := by unfold anyT; rw [HD1.out]; omega
  have hn : anyT xn = 1 + d2 := by unfold anyT; rw [HD2.out]; omega
  have lt1 : 1 ≤ 1 + d1 ∧ 1 + d1 ≤ 3 := by omega
  have ln1 : 1 ≤ 1 + d2 ∧ 1 + d2 ≤ 3 := by omega
  clear l1 l2 HD1 HD2
  generalize 1 + d1 = t at *
  generalize 1 + d2 = n at *
  have Q0d : (S.drewN nq).heap[B0]? = some (.cells #[.int .i64 xp, .int .i64 xt, .int .i64 xn, .int .i64 xh, .slice xa rows.length xc, .string word] 46) := Q0.out
  have Q1d : (S.drewN nq).heap[B0 + 1]? = some (.cells #[.slice none 0 0, .slice none 0 0, .slice none 0 0] 26) := Q1.out
  have hBd : Below B0 w (S.drewN nq) := below_drews HB.out nq
  have hSd : (S.drewN nq).heap.size = B0 + 2 := HS1.out
  clear HB Q0 Q1 HS1 hB0
  have HB := Lib.hid hBd
  have Q0 := Lib.hid Q0d
  have Q1 := Lib.hid Q1d
  have HS1 := Lib.hid hSd
  clear hBd Q0d Q1d hSd
  generalize S.drewN nq = S1 at *
  clear S
  go_upto_region 3 with fail
  have t0 : (0 : Int) ≤ t := by omega
  have t3 : (t : Int) ≤ 3 := by omega
  have n0 : (0 : Int) ≤ n := by omega
  have n3 : (n : Int) ≤ 3 := by omega
  go_cut [6] from 20 to 26 (fun p wx => ∃ b6 x y, p = .pointer (some ⟨b6, 0, none⟩) ∧ Hid (wx.heap[b6]? = some (.cells #[.slice (some ⟨x, 0, none⟩) t 3, .slice (some ⟨y, 0, none⟩) n 3, .slice none 0 0] 26) ∧ wx.heap[x]? = some (.cells #[.string ⟨#[97]⟩, .string ⟨#[98]⟩, .string ⟨#[99]⟩] 9) ∧ wx.heap[y]? = some (.cells #[.string ⟨#[83]⟩, .string ⟨#[65]⟩, .string ⟨#[66]⟩] 9) ∧ Below S1.heap.size S1 wx ∧ S1.heap.size ≤ b6 ∧ x ≠ b6 ∧ y ≠ b6))
  case first =>
    go_region
    all_goals
      go_wp2_with fail
      go_meet
      case rel =>
        apply Exists.intro
        apply Exists.intro
        apply Exists.intro
        refine ⟨rfl, Lib.hid ⟨?_, ?_, ?_, (three _ _ _ _).1.drew, ?_, ?_, ?_⟩⟩
        · first | exact (three _ _ _ _).2.2.1 | exact (three _ _ _ _).2.2.2.1 | exact (three _ _ _ _).2.2.2.2
        · first | exact (three _ _ _ _).2.2.1 | exact (three _ _ _ _).2.2.2.1 | exact (three _ _ _ _).2.2.2.2
        · first | exact (three _ _ _ _).2.2.1 | exact (three _ _ _ _).2.2.2.1 | exact (three _ _ _ _).2.2.2.2
        all_goals omega
  case rest =>
    obtain ⟨b6, x, y, rfl, hc⟩ := hcut
    obtain ⟨h6, hxx, hyy, hbw, hb6, hx6, hy6⟩ := hc.out
    clear hc
    have l6 := heap_lt h6
    have c0 := (blk_cell (i := 0) (u := .slice (some ⟨x, 0, none⟩) t 3) h6 rfl).1
    have c1 := (blk_cell (i := 1) (u := .slice (some ⟨y, 0, none⟩) n 3) h6 rfl).1
    generalize hts : ([[97], [98], [99]] : List (List UInt8)).take t = ts
    generalize hns : ([[83], [65], [66]] : List (List UInt8)).take n = ns
    have htl : ts.length = t := by rw [← hts, List.length_take]; simp; omega
    have hnl : ns.length = n := by rw [← hns, List.length_take]; simp; omega
    have XC : ∀ W : World, (∀ k, k < wc.heap.size → W.heap[k]? = wc.heap[k]?) → ∀ j u, (strs ts)[j]? = some u → W.cell? ((⟨x, 0, none⟩ : Addr).add j) = some u := fun W hW => fun j u hj => by
      refine World.news_of_block ((hW x (heap_lt hxx)).trans hxx) j u ?_
      rw [← hts] at hj
      unfold strs at hj
      rw [List.map_take, List.getElem?_take] at hj
      split at hj
      · exact hj
      · cases hj
    have YC : ∀ W : World, (∀ k, k < wc.heap.size → W.heap[k]? = wc.heap[k]?) → ∀ j u, (strs ns)[j]? = some u → W.cell? ((⟨y, 0, none⟩ : Addr).add j) = some u := fun W hW => fun j u hj => by
      refine World.news_of_block ((hW y (heap_lt hyy)).trans hyy) j u ?_
      rw [← hns] at hj
      unfold strs at hj
      rw [List.map_take, List.getElem?_take] at hj
      split at hj
      · exact hj
      · cases hj
    have HXC := Lib.hid XC
    have HYC := Lib.hid YC
    have HX6 := Lib.hid h6
    have HTL := Lib.hid htl
    have HNL := Lib.hid hnl
    have HBW := Lib.hid hbw
    have ONE : ∀ l : List (List UInt8), ∀ u ∈ strs l, u.oneCell' = true := fun l u hu => by
      obtain ⟨z, _, rfl⟩ := List.mem_map.1 hu; rfl
    have SL : ∀ l : List (List UInt8), (strs l).length = l.length * 1 := fun l => by simp [strs]
    have HONE := Lib.hid ONE
    have HSL := Lib.hid SL
    clear XC YC h6 hxx hyy htl hnl hbw ONE SL
    go_upto_region 4 with fail
    go_cut [6] from 27 to 34 (fun p wx => p = .pointer (some ⟨b6, 0, none⟩) ∧ ∃ (gx gy cx cy : Nat), Hid (wx.heap[b6]? = some (.cells #[.slice (some ⟨gx, 0, none⟩) t cx, .slice (some ⟨gy, 0, none⟩) n cy, .slice none 0 0] 26) ∧ wx.ownsRow wc.heap.size 9 1 (.slice (some ⟨gx, 0, none⟩) t cx) t (strs ts) ∧ wx.ownsRow wc.heap.size 9 1 (.slice (some ⟨gy, 0, none⟩) n cy) n (strs ns) ∧ gx ≠ gy ∧ Below S1.heap.size S1 wx ∧ wc.heap.size ≤ wx.heap.size))
    case first =>
      go_region_law (first
        | (refine step_append_lies _ (by rfl) _ _ _ (by rfl) wc.heap.size 9 i0 _ 1 16 Try.underlying23 hi0 hz0 hz1 hz2 rfl (by omega) _ 0 [] (by rfl) (World.ownsRow_nil _ _ _ _) ⟨x, 0, none⟩ t 3 (strs ts) (by rfl) (by rw [HSL.out, HTL.out]) (HXC.out _ (by first | exact fun _ _ => rfl | exact HK.out)) (HONE.out _) (by omega) (by unfold maxLen; omega) (by omega) (by first | exact Nat.le_refl _ | exact HKZ.out) _ rfl ?_
           intro gx cx wx hownx hgrowx hatx hltx
           have hk : Hid (∀ k, k < wc.heap.size → wx.heap[k]? = wc.heap[k]?) := Lib.hid (by first | exact fun k hk => (hgrowx.block k (Nat.lt_of_lt_of_le hk HKZ.out) (by simp [Value.ownBlock])).trans (HK.out k hk) | exact fun k hk => hgrowx.block k hk (by simp [Value.ownBlock]))
           have hkz : Hid (wc.heap.size ≤ wx.heap.size) := Lib.hid (by first | exact Nat.le_trans HKZ.out hgrowx.size | exact hgrowx.size)
           have HK := hk
           have HKZ := hkz
           have h6x := (HK.out b6 l6).trans HX6.out
           obtain ⟨cx0, zx0⟩ := blk_cell (i := 0) (u := .slice (some ⟨x, 0, none⟩) t 3) h6x rfl
           obtain ⟨cx1, zx1⟩ := blk_cell (i := 1) (u := .slice (some ⟨y, 0, none⟩) n 3) h6x rfl
           have lx := heap_lt h6x)
        | (refine step_append_lies _ (by rfl) _ _ _ (by rfl) wc.heap.size 9 i0 _ 1 16 Try.underlying23 hi0 hz0 hz1 hz2 rfl (by omega) _ 0 [] (by rfl) (World.ownsRow_nil _ _ _ _) ⟨y, 0, none⟩ n 3 (strs ns) (by rfl) (by rw [HSL.out, HNL.out]) (HYC.out _ (by first | exact fun _ _ => rfl | exact HK.out)) (HONE.out _) (by omega) (by unfold maxLen; omega) (by omega) (by first | exact Nat.le_refl _ | exact HKZ.out) _ rfl ?_
           intro gy cy wy howny hgrowy haty hlty
           have hk : Hid (∀ k, k < wc.heap.size → wy.heap[k]? = wc.heap[k]?) := Lib.hid (by first | exact fun k hk => (hgrowy.block k (Nat.lt_of_lt_of_le hk HKZ.out) (by simp [Value.ownBlock])).trans (HK.out k hk) | exact fun k hk => hgrowy.block k hk (by simp [Value.ownBlock]))
           have hkz : Hid (wc.heap.size ≤ wy.heap.size) := Lib.hid (by first | exact Nat.le_trans HKZ.out hgrowy.size | exact hgrowy.size)
           have HK := hk
           have HKZ := hkz
           have h6y := (HK.out b6 l6).trans HX6.out
           obtain ⟨cy0, zy0⟩ := blk_cell (i := 0) (u := .slice (some ⟨x, 0, none⟩) t 3) h6y rfl
           obtain ⟨cy1, zy1⟩ := blk_cell (i := 1) (u := .slice (some ⟨y, 0, none⟩) n 3) h6y rfl
           have ly := heap_lt h6y))
      all_goals
        go_wp2_with fail
        go_meet
        case rel =>
          have hx1 : wx.ownsRow wc.heap.size 9 1 (.slice (some ⟨gx, 0, none⟩) t cx) t (strs ts) := by simpa using hownx
          have hy1 : wy.ownsRow wc.heap.size 9 1 (.slice (some ⟨gy, 0, none⟩) n cy) n (strs ns) := by simpa using howny
          refine ⟨rfl, gx, gy, cx, cy, Lib.hid ⟨?_, ?_, ?_, ?_, ?_, ?_⟩⟩
          · exact (heap_set _ b6 1 _ _ _ (heap_set _ b6 0 _ _ _ ((HK.out b6 l6).trans HX6.out) (by simp)) (by simp)).trans (by simp)
          · first
              | exact own_sets hx1 l6 _ _
              | exact own_sets (own_same hx1 fun g _ hl => hgrowy.block g hl (by simp [Value.ownBlock])) l6 _ _
          · first
              | exact own_sets hy1 l6 _ _
              | exact own_sets (own_same hy1 fun g _ hl => hgrowx.block g hl (by simp [Value.ownBlock])) l6 _ _
          · rcases hatx with h | hatx
            · simp [Value.ownBlock] at h
            · rcases haty with h | haty
              · simp [Value.ownBlock] at h
              · first | omega | (have := hgrowy.size; have := hgrowx.size; omega)
          · first
              | exact (((HBW.out.drew.grown hgrowx HBW.out.size (by intro k hk; simp [Value.ownBlock] at hk)).grown hgrowy (Nat.le_trans HBW.out.size hgrowx.size) (by intro k hk; simp [Value.ownBlock] at hk)).setCell (p := ⟨b6, 0, none⟩) hb6 _).setCell (p := ⟨b6, 1, none⟩) hb6 _
              | exact (((HBW.out.drew.grown hgrowy HBW.out.size (by intro k hk; simp [Value.ownBlock] at hk)).grown hgrowx (Nat.le_trans HBW.out.size hgrowy.size) (by intro k hk; simp [Value.ownBlock] at hk)).setCell (p := ⟨b6, 0, none⟩) hb6 _).setCell (p := ⟨b6, 1, none⟩) hb6 _
          · simpa using HKZ.out
    case rest =>
      rename_i wc0 K1 HK1
      obtain ⟨rfl, gx, gy, cx, cy, hc⟩ := hcut
      obtain ⟨h6, ho1, ho2, hne, hbw, hFs⟩ := hc.out
      clear hc HXC HYC HX6 HBW HONE HSL c0 c1 t0 t3 n0 n3
      obtain rfl := HTL.out
      obtain rfl := HNL.out
      have l60 : b6 < wc0.heap.size := l6
      generalize wc0.heap.size = F at *
      have hB0F : B0 + 2 ≤ b6 := by have := HS1.out; omega
      have hg0 : GBlk b6 F wc ts ns [] (some ⟨gx, 0, none⟩) (some ⟨gy, 0, none⟩) none cx cy 0 := ⟨h6, ⟨ho1, ho2, World.ownsRow_nil _ _ _ _, (by intro q hq; cases hq), (by
        intro x y hx hy e
        cases hx; cases hy
        exact hne e)⟩, l60, hFs⟩
      have HG0 := Lib.hid hg0
      have HBW := Lib.hid hbw
      have hANY : (⟨ts, ns, []⟩ : Gr) = any0 xt xn := by unfold any0; rw [ht, hn, hts, hns]
      have HANY := Lib.hid hANY
      have HHN := Lib.hid hn
      have tn3 : ts.length ≤ 3 ∧ ns.length ≤ 3 ∧ 1 ≤ ts.length ∧ 1 ≤ ns.length := by omega
      obtain ⟨tl3, nl3, tl1, nl1⟩ := tn3
      have HLT1 := lt1
      clear hg0 hbw h6 ho1 ho2 hANY hts hns ht hn lt1 ln1 hx6 hy6 HTL HNL l6
      go_wp2
      go_loopw [7] (fun i wr => ∃ (k : Nat) (ls : List Lay) (ap : Option Addr) (cp : Nat), k ≤ ns.length ∧ i = .int .i64 k ∧ Hid (GBlk b6 F wr ts ns ls (some ⟨gx, 0, none⟩) (some ⟨gy, 0, none⟩) ap cx cy cp) ∧ ls.length ≤ k ∧ Hid (∀ q ∈ ls, q.right.length ≤ 1000) ∧ Hid ((⟨ts, ns, ls.map Lay.plain⟩ : Gr) = baseP ⟨ts, ns, []⟩ k) ∧ Below S1.heap.size S1 wr) (fun i _ => ns.length - (intOf i).toNat)
      case atStart => exact ⟨0, [], none, 0, by omega, rfl, HG0, by simp, Lib.hid (by intro q hq; cases hq), Lib.hid rfl, HBW.out⟩
      case round =>
        obtain ⟨k, ls, ap, cp, hk, rfl, HG, hlk, HQ, HE, hbe⟩ := hrel
        have hblk := HG.out.blk
        have hl6 := heap_lt hblk
        have c0 := (blk_cell (i := 0) (u := .slice (some ⟨gx, 0, none⟩) ts.length cx) hblk rfl).1
        have c1 := (blk_cell (i := 1) (u := .slice (some ⟨gy, 0, none⟩) ns.length cy) hblk rfl).1
        have c2 := (blk_cell (i := 2) (u := .slice ap ls.length cp) hblk rfl).1
        have HBE := Lib.hid hbe
        have HBLK := Lib.hid hblk
        clear hbe hblk
        by_cases hlt : k < ns.length
        · have e1 : (k : Int) < ns.length := by omega
          have HPUT := Lib.hid (put_any (w := wr.alloc (.cells #[.int .i64 k] 3)) (100 + (k : Int)) (some ⟨wr.heap.size, 0, none⟩) 1 [(k : Int)] (HG.out.rws.alloc _) (cells_new wr #[.int .i64 k] 3) (by have := HG.out.le; simp; omega) (by omega) (by omega) (by omega) (by omega) HQ.out)
          go_wp2_with (go_at_call 84; refine HPUT.out.mono ?_; rintro e w2 ⟨ap2, cp2, ls2, rfl, hr2, hg2, he2, hq2⟩; have h62 := (hg2.block b6 (by simp; omega) (by intro e; have := (own_block HG.out.rws.p e.symm).1; have := HG.out.lt; omega)).trans ((Below.heap_alloc wr _ b6 hl6).trans HBLK.out); obtain ⟨v0, z0⟩ := blk_cell (i := 0) (u := .slice (some ⟨gx, 0, none⟩) ts.length cx) h62 rfl; obtain ⟨v1, z1⟩ := blk_cell (i := 1) (u := .slice (some ⟨gy, 0, none⟩) ns.length cy) h62 rfl; obtain ⟨v2, z2⟩ := blk_cell (i := 2) (u := .slice ap ls.length cp) h62 rfl; have hl62 := heap_lt h62; have H62 := Lib.hid h62; clear h62)
          obtain ⟨g1, g2⟩ := gblk_put HG.out ((Below.refl _ _).alloc (Nat.le_refl _) _) hr2 hg2 H62.out HBE.out hb6
          exact ⟨⟨k + 1, ls2, ap2, cp2, by omega, by go_num, Lib.hid g1, by have := put_len he2; omega, Lib.hid hq2, Lib.hid (by rw [he2, HE.out]; show putF _ _ _ = putF _ ((100 + k : Nat) : Int) _; rw [show ((100 + k : Nat) : Int) = 100 + (k : Int) by omega]), g2⟩, by simp [intOf]; omega⟩
        · have hkn : k = ns.length := by omega
          have e1 : ¬ (k : Int) < ns.length := by omega
          have HK := Lib.hid hkn
          clear hlt c0 c1 c2
          go_wp2
          go_loopw [8] (fun i wr => ∃ (k : Nat) (ls : List Lay) (ap : Option Addr) (cp : Nat), k ≤ rows.length ∧ k ≤ 5 ∧ i = .int .i64 k ∧ Hid (GBlk b6 F wr ts ns ls (some ⟨gx, 0, none⟩) (some ⟨gy, 0, none⟩) ap cx cy cp) ∧ ls.length ≤ ns.length + k ∧ Hid (∀ q ∈ ls, q.right.length ≤ 1000) ∧ Hid ((⟨ts, ns, ls.map Lay.plain⟩ : Gr) = rowsP (baseP ⟨ts, ns, []⟩ ns.length) (rows.map (·.row)) k) ∧ Below S1.heap.size S1 wr) (fun i _ => 5 - (intOf i).toNat)
          case atStart => exact ⟨0, ls, ap, cp, by omega, by omega, rfl, HG, by omega, HQ, Lib.hid (by rw [HE.out, HK.out]; rfl), HBE.out⟩
          case round =>
            rename World => wy
            clear HG HQ HE HBE HBLK HK hlk
            obtain ⟨j, ls, ap, cp, hj, hj5, rfl, HG, hlk, HQ, HE, hbe⟩ := hrel
            have hblk := HG.out.blk
            have hl6 := heap_lt hblk
            have c0 := (blk_cell (i := 0) (u := .slice (some ⟨gx, 0, none⟩) ts.length cx) hblk rfl).1
            have c1 := (blk_cell (i := 1) (u := .slice (some ⟨gy, 0, none⟩) ns.length cy) hblk rfl).1
            have c2 := (blk_cell (i := 2) (u := .slice ap ls.length cp) hblk rfl).1
            have hq0 := (hbe.block B0 (by have := HS1.out; omega)).trans Q0.out
            have hq1 := (hbe.block (B0 + 1) (by have := HS1.out; omega)).trans Q1.out
            have x4 := (blk_cell (i := 4) (u := .slice xa rows.length xc) hq0 rfl).1
            have hlB := heap_lt hq0
            have hww : Below w.heap.size w wy := by rw [HB0.out]; exact HB.out.trans (hbe.mono (by have := HS1.out; omega))
            have HRX := Lib.hid (HX.out.below hww)
            have HWW := Lib.hid hww
            have HBE := Lib.hid hbe
            have HBLK := Lib.hid hblk
            have HQ1 := Lib.hid hq1
            clear hbe hblk hq0 hww hq1
            by_cases hlt : j < rows.length ∧ j < 5
            · obtain ⟨hlt, hlt5⟩ := hlt
              obtain ⟨r, hr⟩ : ∃ r, rows[j]? = some r := ⟨_, List.getElem?_eq_getElem hlt⟩
              have e2 : (j : Int) < rows.length := by omega
              have e3 : (j : Int) < 5 := by omega
              obtain ⟨rb, ro, hxa, hrb, hrc⟩ := HRX.out.cells.get (by intro e; have := rowVs_at hr; rw [e] at this; simp at this)
              have x5 := hrc j _ (rowVs_at hr)
              have hrm := List.mem_of_getElem? hr
              have hre := HRX.out.each r hrm
              have hrw := HRX.out.wide r hrm
              have HR := Lib.hid hr
              simp only at hxa
              subst hxa
              have HRE := Lib.hid hre
              have HRW := Lib.hid hrw
              clear hre hrw hrc
              obtain ⟨lv, hlv⟩ : ∃ lv : Int, lv = match r.row with | [] => (j : Int) | z :: _ => z.tdiv 16 := ⟨_, rfl⟩
              have HLV := Lib.hid hlv
              clear hlv
              go_upto_if 64 with fail
              go_cut [9, 62, 63, 64] from 65 to 72 (fun v _ _ _ wx => v = .int .i64 lv ∧ wy = wx)
              case first =>
                cases hrr : r.row with
                | nil =>
                  have hl0 : lv = j := by rw [HLV.out, hrr]
                  subst hl0
                  have hr0 : r.row.length = 0 := by rw [hrr]; rfl
                  have hr00 : ¬ (0 : Int) < r.row.length := by omega
                  clear hrr hr0
                  go_wp2_with fail
                  go_meet
                  case rel => exact ⟨rfl, rfl⟩
                | cons z l =>
                  have hl0 : lv = z.tdiv 16 := by rw [HLV.out, hrr]
                  subst hl0
                  have hr0 : (0 : Int) < r.row.length := by rw [hrr]; simp only [List.length_cons]; omega
                  obtain ⟨rb2, ro2, hra2, hrb2, hrc2⟩ := HRE.out.get (by rw [hrr]; simp [nums])
                  have z0 := hrc2 0 (.int .i64 z) (by rw [hrr]; rfl)
                  rw [Nat.add_zero] at z0
                  have zw := HRW.out z (by rw [hrr]; simp)
                  have zr : IntKind.i64.wrap (z.tdiv 16) = z.tdiv 16 := wrap_tdiv z zw.1 zw.2
                  have hrb1 : 0 < (z :: l).length := Nat.zero_lt_succ _
                  have hrb2' : decide (0 < (z :: l).length) = true := decide_eq_true hrb1
                  clear hrr hrc2 zw
                  rw [hra2] at x5
                  go_wp2_with fail
                  go_meet
                  case rel => exact ⟨rfl, rfl⟩
              case rest =>
                obtain ⟨rfl, rfl⟩ := hcut
                obtain ⟨d, hd, hdl⟩ : ∃ d : Nat, lv % (ns.length : Int) = d ∧ d < ns.length := ⟨(lv % (ns.length : Int)).toNat, by
                  have := Int.emod_nonneg lv (show (ns.length : Int) ≠ 0 by omega); omega, by
                  have := Int.emod_nonneg lv (show (ns.length : Int) ≠ 0 by omega)
                  have := Int.emod_lt_of_pos lv (show (0 : Int) < ns.length by omega); omega⟩
                have HWI := Lib.hid fun W => (within_any lv (ns.length : Int) (by omega) (by omega) W).mono fun e w' ⟨he, hw⟩ => (⟨he.trans (by rw [hd]), hw⟩ : e = Ending.returned (.int .i64 d) ∧ w' = W)
                have HPUT := Lib.hid (put_any (w := wy.drew) (100 + (d : Int)) r.addr r.cap r.row (HG.out.rws.below (Below.refl _ _).drew) (HRE.out.below (Below.refl _ _).drew) (by have := HG.out.le; exact this) (by omega) (by omega) (by omega) (by omega) HQ.out)
                have HLE := Lib.hid (show leftP j r.row ns.length = 100 + (d : Int) by
                  have h : leftP j r.row ns.length = 100 + lv % (ns.length : Int) := by rw [HLV.out]; unfold leftP; cases r.row <;> rfl
                  rw [h, hd])
                have HROW := Lib.hid (show (rows.map (·.row))[j]? = some r.row by rw [List.getElem?_map, HR.out]; rfl)
                have hwr : IntKind.i64.wrap (100 + (d : Int)) = 100 + (d : Int) := by rw [IntKind.wrap_i64]; omega
                clear hd HLV
                go_wp2
                go_region_with (first
                  | (go_at_call 15; with_reducible refine (HWI.out _).mono ?_; rintro e w2 ⟨rfl, rfl⟩)
                  | (go_at_call 84; refine HPUT.out.mono ?_; rintro e w2 ⟨ap2, cp2, ls2, rfl, hr2, hg2, he2, hq2⟩; have h62 := (hg2.block b6 hl6 (by intro e; have := (own_block HG.out.rws.p e.symm).1; have := HG.out.lt; omega)).trans HBLK.out; obtain ⟨v0, z0⟩ := blk_cell (i := 0) (u := .slice (some ⟨gx, 0, none⟩) ts.length cx) h62 rfl; obtain ⟨v1, z1⟩ := blk_cell (i := 1) (u := .slice (some ⟨gy, 0, none⟩) ns.length cy) h62 rfl; obtain ⟨v2, z2⟩ := blk_cell (i := 2) (u := .slice ap ls.length cp) h62 rfl; have hl62 := heap_lt h62; have H62 := Lib.hid h62; clear h62))
                all_goals
                  go_wp2
                  obtain ⟨g1, g2⟩ := gblk_put HG.out (Below.refl _ _).drew hr2 hg2 H62.out HBE.out hb6
                  exact ⟨⟨j + 1, ls2, ap2, cp2, by omega, by omega, by go_num, Lib.hid g1, by have := put_len he2; omega, Lib.hid hq2, Lib.hid (by rw [he2, HE.out]; simp only [rowsP, HROW.out]; rw [show (baseP ⟨ts, ns, []⟩ ns.length).nons.length = ns.length from baseP_nons _ _, HLE.out]), g2⟩, by simp [intOf]; omega⟩
            · have hend : j = min rows.length 5 := by omega
              have hex : ¬ (j : Int) < rows.length ∨ ((j : Int) < rows.length ∧ ¬ (j : Int) < 5) := by omega
              obtain ⟨v0, z0⟩ := blk_cell (i := 0) (u := .slice none 0 0) HQ1.out rfl
              obtain ⟨v1, z1⟩ := blk_cell (i := 1) (u := .slice none 0 0) HQ1.out rfl
              obtain ⟨v2, z2⟩ := blk_cell (i := 2) (u := .slice none 0 0) HQ1.out rfl
              have hlB1 := heap_lt HQ1.out
              have HEND := Lib.hid hend
              clear hend hlt hj hj5
              have hst := store3 HQ1.out (.slice (some ⟨gx, 0, none⟩) ts.length cx) (.slice (some ⟨gy, 0, none⟩) ns.length cy) (.slice ap ls.length cp)
              have hF := store3_below (show Below w.heap.size w wy from HWW.out) (by rw [HB0.out]; omega : w.heap.size ≤ B0 + 1) (.slice (some ⟨gx, 0, none⟩) ts.length cx) (.slice (some ⟨gy, 0, none⟩) ns.length cy) (.slice ap ls.length cp)
              have hFR := HG.out.rws.keep (w' := ((wy.setCell ⟨B0 + 1, 0, none⟩ (.slice (some ⟨gx, 0, none⟩) ts.length cx)).setCell ⟨B0 + 1, 1, none⟩ (.slice (some ⟨gy, 0, none⟩) ns.length cy)).setCell ⟨B0 + 1, 2, none⟩ (.slice ap ls.length cp)) fun g hg _ => store3_far _ _ _ g (by omega)
              have HST := Lib.hid hst
              have HFF := Lib.hid hF
              have HFR := Lib.hid hFR
              clear hst hF hFR
              have hle := HG.out.le
              rcases hex with hx1 | ⟨hx1, hx2⟩
              all_goals
                go_wp2
                (try simp only [Exit.inBlock, Exit.then])
                refine bodyPost_ret (v := .agg #[.slice (some ⟨gx, 0, none⟩) ts.length cx, .slice (some ⟨gy, 0, none⟩) ns.length cy, .slice ap ls.length cp]) ?_ rfl ⟨HFF.out, F, ts, ns, ls, _, _, _, _, _, _, rfl, by rw [HB0.out]; omega, HFR.out, ?_, by simpa using hle⟩
                · rw [results_cell1 (p := 2) (ty := 26) rfl]
                  show ((asAddr (.pointer (some ⟨B0 + 1, 0, none⟩))).run _ _).andThen _ = _
                  show (loadVar 26 ⟨B0 + 1, 0, none⟩).run _ _ = _
                  exact run_loadVar_row _ (B0 + 1) 26 26 _ (0, 0) _ HST.out Try.underlying26 rfl (by kernel_rfl)
                · rw [HE.out, HANY.out]
                  unfold RawX.any anyF RawX.plain
                  simp only
                  rw [HHN.out, HEND.out, List.length_map]

end Go.Proofs.Ytdnlbmdmaiacaaa
