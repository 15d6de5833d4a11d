/- Same: two grammars alike. -/
import Derived.Test.YtdnlbmdmaiacaaaNames
namespace Go.Proofs.Ytdnlbmdmaiacaaa
open Go.RowKit
open Doc

set_option maxHeartbeats 1000000 in
theorem equalP_any (a b : Option Addr) (ca cb : Nat) (ls ms : List Lay) (w : World) (ha : Cells w a (lays ls)) (hb : Cells w b (lays ms)) (hll : ls.length ≤ 1000000)
    (hlr : ∀ q ∈ ls, Cells w q.addr (nums q.right) ∧ q.right.length ≤ 1000000) (hmr : ∀ q ∈ ms, Cells w q.addr (nums q.right) ∧ q.right.length ≤ 1000000) :
    Calls Try.prog 66 #[.slice a ls.length ca, .slice b ms.length cb, .func (.func 67) #[] #[]] w fun e w' => e = .returned (.bool (decide (ls.map Lay.plain = ms.map Lay.plain))) ∧ Below w.heap.size w w' := by
  have HA := Lib.hid ha
  have HB := Lib.hid hb
  have HL := Lib.hid hlr
  have HM := Lib.hid hmr
  clear ha hb hlr hmr
  by_cases hl : ls.length = ms.length
  · have hlb : ((ls.length : Int) != (ms.length : Int)) = false := by simp [hl]
    have HLE := Lib.hid hl
    clear hl
    go_enter Try.func66, Try.ntmps66
    go_wp2
    go_loopw [17] (fun i wr => ∃ k : Nat, k ≤ ls.length ∧ i = .int .i64 k ∧ Below w.heap.size w wr ∧ Hid (∀ j, j < k → (ls.map Lay.plain)[j]? = (ms.map Lay.plain)[j]?)) (fun i _ => ls.length - (intOf i).toNat)
    case atStart => exact ⟨0, Nat.zero_le _, rfl, Below.refl _ _, Lib.hid (by intro j hj; omega)⟩
    case round =>
      obtain ⟨k, hk, rfl, hbe, HR⟩ := hrel
      by_cases hlt : k < ls.length
      · obtain ⟨p, hp⟩ : ∃ p, ls[k]? = some p := ⟨_, List.getElem?_eq_getElem hlt⟩
        obtain ⟨q, hq⟩ : ∃ q, ms[k]? = some q := ⟨_, List.getElem?_eq_getElem (by have := HLE.out; omega)⟩
        obtain ⟨b1, o1, rfl, hb1, hc1⟩ := (HA.out.below hbe).get (by intro e; have := (lays_at ls k p hp).1; rw [e] at this; simp at this)
        obtain ⟨b2, o2, rfl, hb2, hc2⟩ := (HB.out.below hbe).get (by intro e; have := (lays_at ms k q hq).1; rw [e] at this; simp at this)
        have c0 := hc1 _ _ (lays_at ls k p hp).1
        have c1 := hc1 _ _ (lays_at ls k p hp).2
        have d0 := hc2 _ _ (lays_at ms k q hq).1
        have d1 := hc2 _ _ (lays_at ms k q hq).2
        rw [← Nat.add_assoc] at c1 d1
        have e1 : (k : Int) < ls.length := by omega
        have e2 : (k : Int) < ms.length := by have := HLE.out; omega
        have hpm := HL.out p (List.mem_of_getElem? hp)
        have hqm := HM.out q (List.mem_of_getElem? hq)
        have hal := fun W (hW : Below wr.heap.size wr W) => alike_any p q W ((hpm.1.below hbe).below hW) ((hqm.1.below hbe).below hW) hpm.2 hqm.2
        have gp : (ls.map Lay.plain)[k]? = some p.plain := by rw [List.getElem?_map, hp]; rfl
        have gq : (ms.map Lay.plain)[k]? = some q.plain := by rw [List.getElem?_map, hq]; rfl
        have HGP := Lib.hid gp
        have HGQ := Lib.hid gq
        have HBE := Lib.hid hbe
        obtain ⟨pl, pr, pa, pc⟩ := p
        obtain ⟨ql, qr, qa, qc⟩ := q
        unfold prodV at hal
        simp only at *
        have hS : ∀ o o', Below wr.heap.size wr ((wr.alloc o).alloc o') := fun o o' => ((Below.refl _ _).alloc (Nat.le_refl _) _).alloc (by simp) _
        have HAL := Lib.hid fun o o' => hal _ (hS o o')
        have HS := Lib.hid hS
        clear hal hS hc1 hc2 hp hq hpm hqm gp gq
        cases hd : decide ((Lay.mk pl pr pa pc).plain = (Lay.mk ql qr qa qc).plain) with
        | true =>
          have HR2 : Hid (∀ j, j < k + 1 → (ls.map Lay.plain)[j]? = (ms.map Lay.plain)[j]?) := Lib.hid fun j hj => by
            by_cases hjk : j = k
            · subst hjk; rw [HGP.out, HGQ.out, of_decide_eq_true hd]
            · exact HR.out j (by omega)
          go_wp2_with (go_at_call 67; refine (HAL.out _ _).mono ?_; rintro e w2 ⟨rfl, hb2⟩; rw [hd])
          go_roundw
          case rel => exact ⟨k + 1, by omega, by go_num, HBE.out.trans (((HS.out _ _).trans (hb2.mono (HS.out _ _).size)).mono HBE.out.size), HR2⟩
          case measure => simp [intOf]; omega
        | false =>
          have HN := Lib.hid (show decide (ls.map Lay.plain = ms.map Lay.plain) = false by
            rw [decide_eq_false_iff_not]
            intro e
            rw [e, HGQ.out] at HGP
            exact of_decide_eq_false hd (Option.some.inj HGP.out).symm)
          go_wp2_with (go_at_call 67; refine (HAL.out _ _).mono ?_; rintro e w2 ⟨rfl, hb2⟩; rw [hd])
          go_ret
          exact ⟨ret_bool HN.out.symm, HBE.out.trans (((HS.out _ _).trans (hb2.mono (HS.out _ _).size)).mono HBE.out.size)⟩
      · have HN := Lib.hid (show decide (ls.map Lay.plain = ms.map Lay.plain) = true by
          rw [decide_eq_true_iff]
          apply List.ext_getElem?
          intro j
          by_cases hj : j < k
          · exact HR.out j hj
          · rw [List.getElem?_eq_none (by simp; omega), List.getElem?_eq_none (by have := HLE.out; simp; omega)])
        have e1 : ¬ (k : Int) < ls.length := by omega
        clear HR
        go_wp2
        go_ret
        exact ⟨ret_bool HN.out.symm, hbe⟩
  · have hlb : ((ls.length : Int) != (ms.length : Int)) = true := by simp; omega
    have HN := Lib.hid (show decide (ls.map Lay.plain = ms.map Lay.plain) = false by
      rw [decide_eq_false_iff_not]
      intro e
      have := congrArg List.length e
      simp only [List.length_map] at this
      exact hl this)
    go_enter Try.func66, Try.ntmps66
    go_wp2
    go_ret
    exact ⟨ret_bool HN.out.symm, Below.refl _ _⟩

/-- Grammars of which no list is too long for a walk. -/
def Fits (g : Gr) : Prop := g.terms.length ≤ 1000000 ∧ g.nons.length ≤ 1000000 ∧ g.prods.length ≤ 1000000 ∧ ∀ p ∈ g.prods, p.2.length ≤ 1000000

theorem same_any (v1 v2 : Value) (g h : Gr) (w : World) (hg : GramAt w v1 g) (hh : GramAt w v2 h) (f1 : Fits g) (f2 : Fits h) :
    Calls Try.prog 25 #[v1, v2] w fun e w' => e = .returned (.bool (decide (g = h))) ∧ Below w.heap.size w w' := by
  obtain ⟨a1, a2, a3, c1, c2, c3, ls, rfl, hp, h1, h2, h3, h4, _⟩ := hg
  obtain ⟨b1, b2, b3, d1, d2, d3, ms, rfl, hq, k1, k2, k3, k4, _⟩ := hh
  have hS : ∀ o o', Below w.heap.size w ((w.alloc o).alloc o') := fun o o' => ((Below.refl _ _).alloc (Nat.le_refl _) _).alloc (by simp) _
  have hD : ∀ o o' n, Below w.heap.size w (((w.alloc o).alloc o').drewN n) := fun o o' n => below_drews (hS o o') n
  have HT := Lib.hid fun o o' => equalS_any a1 b1 c1 d1 g.terms h.terms ((w.alloc o).alloc o') (h1.below (hS o o')) (k1.below (hS o o')) f1.1 f2.1
  have HNn := Lib.hid fun o o' n => equalS_any a2 b2 c2 d2 g.nons h.nons (((w.alloc o).alloc o').drewN n) (h2.below (hD o o' n)) (k2.below (hD o o' n)) f1.2.1 f2.2.1
  have hll : ls.length ≤ 1000000 := by have := f1.2.2.1; rw [← hp, List.length_map] at this; exact this
  have HP := Lib.hid fun o o' n => equalP_any a3 b3 c3 d3 ls ms (((w.alloc o).alloc o').drewN n) (h3.below (hD o o' n)) (k3.below (hD o o' n)) hll
    (fun q hq' => ⟨(h4 q hq').below (hD o o' n), f1.2.2.2 q.plain (hp ▸ List.mem_map_of_mem hq')⟩) (fun q hq' => ⟨(k4 q hq').below (hD o o' n), f2.2.2.2 q.plain (hq ▸ List.mem_map_of_mem hq')⟩)
  have HS := Lib.hid hS
  have HD := Lib.hid hD
  have hres : decide (g = h) = (decide (g.terms = h.terms) && decide (g.nons = h.nons) && decide (ls.map Lay.plain = ms.map Lay.plain)) := by
    rw [hp, hq]
    obtain ⟨gt, gn, gp⟩ := g
    obtain ⟨ht, hn, hp'⟩ := h
    simp [Bool.and_assoc]
  have HRES := Lib.hid hres
  clear hS hD h1 h2 h3 h4 k1 k2 k3 k4 hp hq f1 f2 hres hll
  cases ht : decide (g.terms = h.terms) with
  | false =>
    go_enter Try.func25, Try.ntmps25
    go_wp2_with (go_at_call 65; with_reducible refine (HT.out _ _).mono ?_; rintro e w2 ⟨rfl, n2, rfl⟩; rw [ht])
    go_ret
    exact ⟨ret_bool (by rw [HRES.out, ht]; rfl), HD.out _ _ _⟩
  | true =>
    cases hn : decide (g.nons = h.nons) with
    | false =>
      go_enter Try.func25, Try.ntmps25
      go_wp2_with (first
        | (go_at_call 65; with_reducible refine (HT.out _ _).mono ?_; rintro e w2 ⟨rfl, n2, rfl⟩; rw [ht])
        | (go_at_call 65; with_reducible refine (HNn.out _ _ _).mono ?_; rintro e w2 ⟨rfl, n3, rfl⟩; rw [hn]; simp only [World.drewN_drewN]))
      go_ret
      exact ⟨ret_bool (by rw [HRES.out, ht, hn]; rfl), HD.out _ _ _⟩
    | true =>
      go_enter Try.func25, Try.ntmps25
      go_wp2_with (first
        | (go_at_call 65; with_reducible refine (HT.out _ _).mono ?_; rintro e w2 ⟨rfl, n2, rfl⟩; rw [ht])
        | (go_at_call 65; with_reducible refine (HNn.out _ _ _).mono ?_; rintro e w2 ⟨rfl, n3, rfl⟩; rw [hn]; simp only [World.drewN_drewN])
        | (go_at_call 66; with_reducible refine (HP.out _ _ _).mono ?_; rintro e w2 ⟨rfl, hb2⟩))
      go_ret
      exact ⟨ret_bool (by rw [HRES.out, ht, hn]; simp), (HD.out _ _ _).trans (hb2.mono (HD.out _ _ _).size)⟩

end Go.Proofs.Ytdnlbmdmaiacaaa
