/- lang: bearing, walked. lang: leads, walked. -/
import Derived.Test.YtejjdfmobiegdaaDoorFirstN
import Derived.Test.YtejjdfmobiegdaaDoorTrkT
set_option linter.unusedVariables false
namespace Go.Proofs.YtejjdfmobiegdaaDoor
open Go.RowKit
open Doc

/-- The rows at some places. -/
def pickL (ls : List Lay) (l : List Int) : List Lay := l.filterMap fun k => ls[k.toNat]?
theorem pickL_plain (ls : List Lay) (l : List Int) : (pickL ls l).map Lay.plain = l.filterMap fun k => (ls.map Lay.plain)[k.toNat]? := by
  unfold pickL
  rw [List.map_filterMap]
  congr 1
  funext k
  rw [List.getElem?_map]
theorem pickL_len (ls : List Lay) (l : List Int) : (pickL ls l).length ≤ l.length := by unfold pickL; exact List.length_filterMap_le _ _
theorem lays_snoc (l : List Lay) (p : Lay) : lays (l ++ [p]) = lays l ++ [.int .i64 p.left, .slice p.addr p.right.length p.cap] := by simp [lays]
set_option maxRecDepth 100000 in
set_option maxHeartbeats 8000000 in
theorem bearing_any (v : Value) (g : Gr) (w : World) (hg : GramAt w v g) (hck : CheckG g) :
    Calls Tryd.prog 45 #[v] w fun e w' => Below w.heap.size w w' ∧ ∃ (F : Nat) (l : List Int) (er : Int) (ls : List Lay) (a : Option Addr) (c : Nat), SetIs F (Fru g) ∧ TrimOf g F l er ∧ ls.map Lay.plain = g.prods ∧ e = .returned (.slice a (pickL ls l).length c) ∧ Cells w' a (lays (pickL ls l)) ∧ ∀ p ∈ pickL ls l, Cells w' p.addr (nums p.right) := by
  obtain ⟨i1, hi1, hy0, hy1, hy2⟩ := info_of infoP
  have hg0 := hg
  obtain ⟨a1, a2, a3, c1, c2, c3, ls, rfl, hp, k1, k2, k3, k4, k5, k6, k7⟩ := hg
  have hS : Below w.heap.size w (w.alloc (.cells #[.slice a1 g.terms.length c1, .slice a2 g.nons.length c2, .slice a3 ls.length c3] 29)) := (Below.refl _ _).alloc (Nat.le_refl _) _
  have hT := trim_one _ g _ (hg0.below hS) hck
  have hQ := heap_alloc_new w (.cells #[.slice a1 g.terms.length c1, .slice a2 g.nons.length c2, .slice a3 ls.length c3] 29)
  have x0 := (blk_cell (i := 0) (u := .slice a1 g.terms.length c1) hQ rfl).1
  have x1 := (blk_cell (i := 1) (u := .slice a2 g.nons.length c2) hQ rfl).1
  have x2 := (blk_cell (i := 2) (u := .slice a3 ls.length c3) hQ rfl).1
  have hl0 := heap_lt hQ
  have HT := Lib.hid hT
  have H3 := Lib.hid (k3.below hS)
  have H4 := Lib.hid fun p hp => (k4 p hp).below hS
  have HP := Lib.hid hp
  have HQ := Lib.hid hQ
  have HS := Lib.hid hS
  have HPL := Lib.hid (show ls.length = g.prods.length by rw [← hp, List.length_map])
  have hp24 := hck.p24
  have HCK := Lib.hid hck
  clear hg0 k1 k2 k3 k4 k5 k6 k7 hT hp hQ hck hS
  go_enter Tryd.func45, Tryd.ntmps45
  go_upto_region 1 with fail
  generalize hSq : w.alloc (.cells #[.slice a1 g.terms.length c1, .slice a2 g.nons.length c2, .slice a3 ls.length c3] 29) = S at *
  clear hSq
  generalize hB0 : w.heap.size = B0 at *
  have HB0 := Lib.hid hB0
  clear hB0
  go_upto_region 3 with (go_at_call 71; refine HT.out.mono ?_; rintro e w2 ⟨hb2, SF, a, c, l, er, rfl, hSF, hTO, hlc, hll2⟩)
  have HSF := Lib.hid hSF
  have hrange : ∀ k ∈ l, ∃ j p, ls[j]? = some p ∧ k = ((j : Nat) : Int) := by
    rcases hTO with ⟨_, _, rfl⟩ | ⟨_, _, rfl⟩
    · intro k hk
      obtain ⟨j, q, hj, _, e⟩ := (trimF_mem SF g.prods 0 k).1 hk
      rw [← HP.out, List.getElem?_map] at hj
      cases hj2 : ls[j]? with
      | none => rw [hj2] at hj; cases hj
      | some p => exact ⟨j, p, hj2, by rw [e]; simp⟩
    · intro k hk; cases hk
  have HRA := Lib.hid hrange
  have hl24 : l.length ≤ 1000000 := hll2
  have HTO := Lib.hid hTO
  have HLC := Lib.hid hlc
  have HQ2 := Lib.hid ((hb2.block B0 hl0).trans HQ.out)
  have H32 := Lib.hid (H3.out.below hb2)
  have H42 := Lib.hid (fun p hp => (H4.out p hp).below hb2)
  have HBW := Lib.hid (HS.out.trans (hb2.mono (by omega)))
  have hBz : B0 ≤ w2.heap.size := by have := hb2.size; omega
  clear hSF hTO hlc hb2 H3 H4 HQ HS hrange x0 x1 x2 HT hll2 hl0
  go_wp2_with fail
  go_loopw [5, 15] (fun v i wr => ∃ (k : Nat) (a' : Option Addr) (c' : Nat), k ≤ l.length ∧ i = .int .i64 k ∧ v = .slice a' (pickL ls (l.take k)).length c' ∧ Hid (wr.ownsRow w2.heap.size 68 2 (.slice a' (pickL ls (l.take k)).length c') (pickL ls (l.take k)).length (lays (pickL ls (l.take k)))) ∧ Hid (Below w2.heap.size w2 wr)) (fun _ i _ => l.length - (intOf i).toNat)
  case atStart => exact ⟨0, none, 0, by omega, rfl, rfl, Lib.hid (World.ownsRow_nil _ _ _ _), Lib.hid (Below.refl _ _)⟩
  case round =>
    obtain ⟨k, a', c', hk, rfl, rfl, HO, HBE⟩ := hrel
    by_cases hlt : k < l.length
    · obtain ⟨q, hq⟩ : ∃ q, l[k]? = some q := ⟨_, List.getElem?_eq_getElem hlt⟩
      obtain ⟨j, p, hj, rfl⟩ := HRA.out q (List.mem_of_getElem? hq)
      obtain ⟨pl, pr, pa, pc⟩ := p
      have hjl : j < ls.length := (List.getElem?_eq_some_iff.1 hj).1
      obtain ⟨lb, lo, rfl, hlb, hlcc⟩ := (HLC.out.below HBE.out).get (by unfold nums; intro e; rw [List.map_eq_nil_iff] at e; rw [e] at hlt; simp at hlt)
      have x0 := hlcc k _ (nums_at hq)
      obtain ⟨b3, o3, rfl, hb3, hc3⟩ := (H32.out.below HBE.out).get (by intro e; have := (lays_at ls j _ hj).1; rw [e] at this; simp at this)
      have x1 := hc3 _ _ (lays_at ls j _ hj).1
      have x2 := hc3 _ _ (lays_at ls j _ hj).2
      rw [← Nat.add_assoc] at x2
      simp only at x1 x2
      have e1 : (k : Int) < l.length := by omega
      have e2 : (j : Int) < ls.length := by omega
      have hq2 := (HBE.out.block B0 (heap_lt HQ2.out)).trans HQ2.out
      have d2 := (blk_cell (i := 2) (u := .slice (some ⟨b3, o3, none⟩) ls.length c3) hq2 rfl).1
      have d3 := heap_lt hq2
      have hN : pickL ls (l.take (k + 1)) = pickL ls (l.take k) ++ [⟨pl, pr, pa, pc⟩] := by
        unfold pickL
        rw [List.take_add_one, hq, List.filterMap_append]
        simp [hj]
      have hpk : (pickL ls (l.take k)).length ≤ k := Nat.le_trans (pickL_len _ _) (by rw [List.length_take]; omega)
      have HN := Lib.hid hN
      have hsz := HBE.out.size
      clear hlcc hc3 hq hj hq2 hN
      generalize pickL ls (l.take k) = T at *
      go_wp2_with (at_builtin; refine wpList_append_lies _ rfl (.tmp 19) (.tmp 25) 27 rfl w2.heap.size 68 i1 (.agg #[.int .i64 0, .slice none 0 0]) 2 32 Tryd.underlying27 hi1 hy0 hy1 hy2 rfl (by decide) _ T.length (lays T) rfl (HO.out.alloc _) ⟨wr.heap.size, 0, none⟩ 1 1 [.int .i64 pl, .slice pa pr.length pc] rfl rfl (World.news_of_block (cs := #[.int .i64 pl, .slice pa pr.length pc]) (t := 68) (fr := (0, 0)) (heap_alloc_new wr _)) (by simp [Value.oneCell']) (by decide) (by unfold maxLen; omega) (by omega) (by simp; omega) wr.heap.size.succ (by simp) ?_; intro g5 cap5 w5 hown5 hgrow5 hat5 hlt5; have HO5 := Lib.hid hown5; have HG5 := Lib.hid hgrow5; clear hown5 hgrow5)
      go_roundw
      case rel => exact ⟨k + 1, some ⟨g5, 0, none⟩, cap5, by omega, by go_num, by rw [HN.out]; simp, Lib.hid (by rw [HN.out, lays_snoc]; simpa using HO5.out), Lib.hid (((HBE.out).alloc hsz _).grown HG5.out (by simp; omega) (fun x hx => (own_block HO.out hx).1))⟩
      case measure => simp [intOf]; omega
    · have hkl : k = l.length := by omega
      subst hkl
      have ht : pickL ls (l.take l.length) = pickL ls l := by rw [List.take_length]
      rw [ht] at HO ⊢
      go_wp2
      go_ret
      exact ⟨by rw [HB0.out]; exact HBW.out.trans (HBE.out.mono hBz), SF, l, er, ls, a', c', HSF.out, HTO.out, HP.out, rfl, (own_cells HO.out).1, fun p hp => (H42.out p (by
        unfold pickL at hp
        obtain ⟨q, _, hq⟩ := List.mem_filterMap.1 hp
        exact List.mem_of_getElem? hq)).below HBE.out⟩
end Go.Proofs.YtejjdfmobiegdaaDoor

set_option linter.unusedVariables false
namespace Go.Proofs.YtejjdfmobiegdaaDoor
open Go.RowKit

theorem and_bit (x n : Nat) : ((((x &&& 2 ^ n : Nat) : Int) != 0)) = x.testBit n := by
  have h : x &&& 2 ^ n = if x.testBit n = true then 2 ^ n else 0 := by
    apply Nat.eq_of_testBit_eq
    intro i
    rw [Nat.testBit_and, Nat.testBit_two_pow]
    by_cases hi : n = i
    · subst hi
      cases hx : x.testBit n <;> simp
    · cases hx : x.testBit n <;> simp [hi]
  have hp : 0 < 2 ^ n := Nat.two_pow_pos n
  rw [h]
  cases hx : x.testBit n
  · simp
  · rw [if_pos rfl]
    have : ((2 ^ n : Nat) : Int) ≠ 0 := by omega
    simpa using this
theorem leads_any (X : Trk) (E : List Nat) (w : World) (h9 : X.st.length = 9) (h104 : E.length = 104) (hE : ∀ x ∈ E, x < 8192) (hl : X.last < 13) :
    Calls Tryd.prog 56 #[.agg (trkL (X.wen E)).toArray] w fun e w' => e = .returned (.bool ((E.getD 0 0).testBit X.last)) ∧ Below w.heap.size w w' := by
  have hq : TrkQ (w.alloc (.cells (trkL (X.wen E)).toArray 81)) w.heap.size X E := ⟨heap_alloc_new w _, h9, h104⟩
  have c0 := hq.en (j := 0) (by omega)
  have c2 := (blk_cell (i := 2) (u := .int .i64 X.last) hq.q rfl).1
  have l0 := heap_lt hq.q
  have HB := Lib.hid (show Below w.heap.size w (w.alloc (.cells (trkL (X.wen E)).toArray 81)) from (Below.refl _ _).alloc (Nat.le_refl _) _)
  have hx : E.getD 0 0 < 8192 := getD_lt hE (by omega) _
  have hp2 : 2 ^ X.last < 65536 := (show 2 ^ X.last < 2 ^ 16 from Nat.pow_lt_pow_right (by omega) (by omega))
  have hand := u16_and_nat (E.getD 0 0) (2 ^ X.last) (by omega) hp2
  have HR := Lib.hid (and_bit (E.getD 0 0) X.last)
  clear hq hE h9 h104
  generalize E.getD 0 0 = x at *
  go_enter Tryd.func56, Tryd.ntmps56
  go_upto_region 1 with fail
  rw [Nat.add_zero] at c0
  generalize hS : w.alloc (.cells (trkL (X.wen E)).toArray 81) = S at *
  have HO := Lib.hid fun (a : Nat) => ((only_any X.last (by omega) (S.drewN a)).mono fun e w' ⟨he, hw⟩ => ⟨he, a, hw⟩ : Calls Tryd.prog 82 #[.int .i64 X.last] (S.drewN a) fun e w' => e = .returned (.int .u16 (2 ^ X.last : Nat)) ∧ ∃ m, w' = S.drewN m)
  clear hS
  generalize 2 ^ X.last = y at *
  go_quiet ((go_at_call 82; exact HO.out _))
  go_wp2
  go_ret
  exact ⟨ret_bool HR.out, below_drews HB.out _⟩
end Go.Proofs.YtejjdfmobiegdaaDoor
