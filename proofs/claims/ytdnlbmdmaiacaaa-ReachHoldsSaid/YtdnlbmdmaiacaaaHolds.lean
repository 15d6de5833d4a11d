/- namesHold, prodHolds, prodsHold, Check: walked. -/
import Derived.Test.YtdnlbmdmaiacaaaNames
import Derived.Test.YtdnlbmdmaiacaaaRow
import Derived.Test.YtdnlbmdmaiacaaaVerify
import Derived.Test.YtdnlbmdmaiacaaaAddNon
namespace Go.Proofs.Ytdnlbmdmaiacaaa
open Go.RowKit
open Doc

/-- A name that begins with one of these. -/
def nameIn (f l : Nat) (x : List UInt8) : Bool := nameOk x && (match x with | [] => false | c :: _ => decide (f ≤ c.toNat) && decide (c.toNat ≤ l))
def NamesP (f l : Nat) (xs : List (List UInt8)) : Prop := 1 ≤ xs.length ∧ xs.length ≤ 8 ∧ (∀ x ∈ xs, nameIn f l x = true) ∧ xs.Nodup
instance (f l : Nat) (xs : List (List UInt8)) : Decidable (NamesP f l xs) := by unfold NamesP; exact inferInstance

theorem nameIn_cons (f l : Nat) (c : UInt8) (t : List UInt8) : nameIn f l (c :: t) = (nameOk (c :: t) && (decide (f ≤ c.toNat) && decide (c.toNat ≤ l))) := rfl

theorem cells_take {w : World} {a : Option Addr} {l : List (List UInt8)} (h : Cells w a (strs l)) (k : Nat) : Cells w a (strs (l.take k)) := by
  rcases h with h | ⟨b, off, ha, hlt, hc⟩
  · left
    unfold strs at h ⊢
    rw [List.map_eq_nil_iff] at h ⊢
    simp [h]
  · refine .inr ⟨b, off, ha, hlt, fun j u hj => hc j u ?_⟩
    unfold strs at hj ⊢
    rw [List.getElem?_map, List.getElem?_take] at hj
    split at hj
    · rw [List.getElem?_map]; exact hj
    · cases hj

set_option maxHeartbeats 2000000 in
theorem namesHold_any (a : Option Addr) (cap : Nat) (xs : List (List UInt8)) (f l : Nat) (w : World) (h : Cells w a (strs xs)) (hl : xs.length ≤ 1000000) (hcap : xs.length ≤ cap) (hsz : ∀ x ∈ xs, x.length ≤ maxLen) :
    Calls Try.prog 52 #[.slice a xs.length cap, .int .i64 8, .int .u8 f, .int .u8 l] w fun e w' => e = .returned (.bool (decide (NamesP f l xs))) ∧ w' = w := by
  by_cases hz : 1 ≤ xs.length ∧ xs.length ≤ 8
  · obtain ⟨hz1, hz2⟩ := hz
    have HH := Lib.hid h
    have HSZ := Lib.hid hsz
    have HZ := Lib.hid (And.intro hz1 hz2)
    clear h hsz
    go_enter Try.func52, Try.ntmps52
    go_wp2
    go_loop [22] (fun i => ∃ k : Nat, k ≤ xs.length ∧ i = .int .i64 k ∧ Hid ((∀ j x, j < k → xs[j]? = some x → nameIn f l x = true) ∧ (xs.take k).Nodup)) (fun i => xs.length - (intOf i).toNat)
    case atStart => exact ⟨0, Nat.zero_le _, rfl, Lib.hid ⟨by intro j x hj; omega, by simp⟩⟩
    case round =>
      obtain ⟨k, hk, rfl, HB⟩ := hrel
      by_cases hlt : k < xs.length
      · obtain ⟨x, hx⟩ : ∃ x, xs[k]? = some x := ⟨_, List.getElem?_eq_getElem hlt⟩
        have hxm := List.mem_of_getElem? hx
        obtain ⟨b, off, rfl, hb, hc⟩ := HH.out.get (by unfold strs; intro e; rw [List.map_eq_nil_iff] at e; rw [e] at hlt; simp at hlt)
        have c0 := hc k _ (strs_at hx)
        have e1 : (k : Int) < xs.length := by omega
        have hxsz : (ByteArray.mk x.toArray).size ≤ maxLen := HSZ.out x hxm
        have HNA := Lib.hid (name_any ⟨x.toArray⟩ w hxsz)
        have i1 : (k : Int) ≤ cap := by omega
        have htl : (xs.take k).length = k := by rw [List.length_take]; omega
        have hca := contains_any (some ⟨b, off, none⟩) cap (xs.take k) x w (cells_take HH.out k) (by omega)
        rw [htl] at hca
        have HCA := Lib.hid hca
        have HX := Lib.hid hx
        have HXM := Lib.hid hxm
        clear hc hca hx hxm htl
        cases hN : nameOk x with
        | false =>
          have HR := Lib.hid (show decide (NamesP f l xs) = false by
            rw [decide_eq_false_iff_not]
            intro h
            have := h.2.2.1 x HXM.out
            unfold nameIn at this
            rw [hN] at this
            cases this)
          go_wp2_with (go_at_call 93; refine HNA.out.mono ?_; rintro e w2 ⟨rfl, rfl⟩; simp only [hN])
          go_ret
          exact ⟨ret_bool HR.out.symm, rfl⟩
        | true =>
          obtain ⟨c, t, rfl⟩ : ∃ c t, x = c :: t := by
            cases x with
            | nil => cases hN
            | cons c t => exact ⟨c, t, rfl⟩
          have hp : 0 < (ByteArray.mk (c :: t).toArray).size := Nat.zero_lt_succ _
          have hcc : ∀ h, (ByteArray.mk (c :: t).toArray)[0]'h = c := fun _ => rfl
          have hin : nameIn f l (c :: t) = (decide (f ≤ c.toNat) && decide (c.toNat ≤ l)) := by rw [nameIn_cons, hN]; rfl
          have HIN := Lib.hid hin
          clear hin
          by_cases hf1 : f ≤ c.toNat
          · by_cases hl1 : c.toNat ≤ l
            · cases hi : (idx (xs.take k) (c :: t)).isSome with
              | true =>
                have HR := Lib.hid (show decide (NamesP f l xs) = false by
                  rw [decide_eq_false_iff_not]
                  intro h
                  cases hj : idx (xs.take k) (c :: t) with
                  | none => rw [hj] at hi; cases hi
                  | some j =>
                    have h1 := idx_at' hj
                    have hjk : j < k := by
                      have := (List.getElem?_eq_some_iff.1 h1).1
                      rw [List.length_take] at this; omega
                    rw [List.getElem?_take_of_lt hjk] at h1
                    exact not_nodup h1 HX.out hjk h.2.2.2)
                have hf2 : ¬ (c.toNat : Int) < f := by omega
                have hl2 : ¬ (l : Int) < c.toNat := by omega
                go_wp2_with (first | (go_at_call 93; refine HNA.out.mono ?_; rintro e w2 ⟨rfl, rfl⟩; simp only [hN]) | (go_at_call 94; refine HCA.out.mono ?_; rintro e w2 ⟨rfl, rfl⟩; simp only [hi]))
                go_ret
                exact ⟨ret_bool HR.out.symm, rfl⟩
              | false =>
                have HB2 : Hid ((∀ j x, j < k + 1 → xs[j]? = some x → nameIn f l x = true) ∧ (xs.take (k + 1)).Nodup) := Lib.hid ⟨fun j x hj hx => by
                  by_cases h : j = k
                  · subst h; rw [HX.out] at hx; cases hx; rw [HIN.out, decide_eq_true hf1, decide_eq_true hl1]; rfl
                  · exact HB.out.1 j x (by omega) hx, nodup_take HX.out HB.out.2 fun j hj hjx => by
                    have hn : idx (xs.take k) (c :: t) = none := by
                      cases hj : idx (xs.take k) (c :: t) with
                      | none => rfl
                      | some j => rw [hj] at hi; cases hi
                    refine idx_none hn (List.mem_of_getElem? (i := j) ?_)
                    rw [List.getElem?_take_of_lt hj]; exact hjx⟩
                have hf2 : ¬ (c.toNat : Int) < f := by omega
                have hl2 : ¬ (l : Int) < c.toNat := by omega
                go_wp2_with (first | (go_at_call 93; refine HNA.out.mono ?_; rintro e w2 ⟨rfl, rfl⟩; simp only [hN]) | (go_at_call 94; refine HCA.out.mono ?_; rintro e w2 ⟨rfl, rfl⟩; simp only [hi]))
                exact ⟨⟨k + 1, by omega, by go_num, HB2⟩, by simp [intOf]; omega⟩
            · have HR := Lib.hid (show decide (NamesP f l xs) = false by
                rw [decide_eq_false_iff_not]
                intro h
                have := h.2.2.1 _ HXM.out
                rw [HIN.out, decide_eq_false hl1, Bool.and_false] at this
                cases this)
              have hf2 : ¬ (c.toNat : Int) < f := by omega
              have hl2 : (l : Int) < c.toNat := by omega
              go_wp2_with (first | (go_at_call 93; refine HNA.out.mono ?_; rintro e w2 ⟨rfl, rfl⟩; simp only [hN]) | (go_at_call 94; refine HCA.out.mono ?_; rintro e w2 ⟨rfl, rfl⟩; simp only [hi]))
              go_ret
              exact ⟨ret_bool HR.out.symm, rfl⟩
          · have HR := Lib.hid (show decide (NamesP f l xs) = false by
              rw [decide_eq_false_iff_not]
              intro h
              have := h.2.2.1 _ HXM.out
              rw [HIN.out, decide_eq_false hf1] at this
              cases this)
            have hf2 : (c.toNat : Int) < f := by omega
            go_wp2_with (go_at_call 93; refine HNA.out.mono ?_; rintro e w2 ⟨rfl, rfl⟩; simp only [hN])
            go_ret
            exact ⟨ret_bool HR.out.symm, rfl⟩
      · have hall : NamesP f l xs := by
          have e : xs.take k = xs := List.take_of_length_le (by omega)
          have hb := HB.out
          rw [e] at hb
          refine ⟨HZ.out.1, HZ.out.2, fun x hx => ?_, hb.2⟩
          obtain ⟨j, hj, ej⟩ := List.getElem_of_mem hx
          exact hb.1 j x (by omega) (by rw [List.getElem?_eq_getElem hj, ej])
        have HR := Lib.hid (show decide (NamesP f l xs) = true from decide_eq_true hall)
        have e1 : ¬ (k : Int) < xs.length := by omega
        clear hall HB
        go_wp2
        go_ret
        exact ⟨ret_bool HR.out.symm, rfl⟩
  · have HR := Lib.hid (show decide (NamesP f l xs) = false by
      rw [decide_eq_false_iff_not]
      intro h
      exact hz ⟨h.1, h.2.1⟩)
    have hor : xs.length < 1 ∨ (1 ≤ xs.length ∧ 8 < xs.length) := by omega
    clear hz h hsz
    rcases hor with q | ⟨q, q'⟩
    all_goals
      go_enter Try.func52, Try.ntmps52
      go_wp2
      go_ret
      exact ⟨ret_bool HR.out.symm, rfl⟩

def maxI : Int := 9223372036854775807
/-- A production that may be. -/
def prodB (g : Gr) (p : Int × List Int) : Bool := nonB g p.1 && (decide (p.2.length ≤ 6) && p.2.all fun s => symB g s)

set_option maxHeartbeats 2000000 in
theorem prodHolds_any (v : Value) (g : Gr) (p : Lay) (w : World) (hg : GramAt w v g) (hp : Cells w p.addr (nums p.right)) (hl : p.right.length ≤ 1000000) (hs : p.left ≤ maxI ∧ ∀ s ∈ p.right, s ≤ maxI) :
    Calls Try.prog 95 #[v, prodV p] w fun e w' => e = .returned (.bool (prodB g p.plain)) ∧ Below w.heap.size w w' := by
  have hg0 := hg
  obtain ⟨a1, a2, a3, c1, c2, c3, ls, rfl, _, _, _, _, _, _⟩ := hg
  obtain ⟨pl, pr, pa, pc⟩ := p
  unfold prodV Lay.plain
  unfold maxI at hs
  simp only at *
  obtain ⟨hs1, hs2⟩ := hs
  have hS : Below w.heap.size w ((w.alloc (.cells #[.slice a1 g.terms.length c1, .slice a2 g.nons.length c2, .slice a3 ls.length c3] 26)).alloc (.cells #[.int .i64 pl, .slice pa pr.length pc] 37)) := ((Below.refl _ _).alloc (Nat.le_refl _) _).alloc (by simp) _
  have f0 : ((w.alloc (.cells #[.slice a1 g.terms.length c1, .slice a2 g.nons.length c2, .slice a3 ls.length c3] 26)).alloc (.cells #[.int .i64 pl, .slice pa pr.length pc] 37)).heap[w.heap.size]? = some (.cells #[.slice a1 g.terms.length c1, .slice a2 g.nons.length c2, .slice a3 ls.length c3] 26) := by rw [Below.heap_alloc _ _ _ (by simp)]; exact heap_alloc_new w _
  have f1 : ((w.alloc (.cells #[.slice a1 g.terms.length c1, .slice a2 g.nons.length c2, .slice a3 ls.length c3] 26)).alloc (.cells #[.int .i64 pl, .slice pa pr.length pc] 37)).heap[w.heap.size + 1]? = some (.cells #[.int .i64 pl, .slice pa pr.length pc] 37) := by have := heap_alloc_new (w.alloc (.cells #[.slice a1 g.terms.length c1, .slice a2 g.nons.length c2, .slice a3 ls.length c3] 26)) (.cells #[.int .i64 pl, .slice pa pr.length pc] 37); simpa using this
  have HG := Lib.hid (hg0.below hS)
  have HP := Lib.hid (hp.below hS)
  have HS := Lib.hid hS
  have HS2 := Lib.hid hs2
  have HF0 := Lib.hid f0
  have HF1 := Lib.hid f1
  have HNON := Lib.hid (isNon_any _ g pl _ (hg0.below hS) hs1)
  clear hg0 hp hS hs2 f0 f1
  go_enter Try.func95, Try.ntmps95
  cases hn : nonB g pl with
  | false =>
    go_wp2_with (go_at_call 71; refine HNON.out.mono ?_; rintro e w2 ⟨rfl, hb2⟩; simp only [hn])
    go_ret
    exact ⟨ret_bool (by unfold prodB; rw [hn]; rfl), HS.out.trans (hb2.mono HS.out.size)⟩
  | true =>
    by_cases h6 : pr.length ≤ 6
    · have h6b : ¬ (6 : Int) < pr.length := by omega
      go_wp2_with (go_at_call 71; refine HNON.out.mono ?_; rintro e w2 ⟨rfl, hb2⟩; simp only [hn]; have f10 := (hb2.cell (p := ⟨w.heap.size + 1, 1, none⟩) (heap_lt HF1.out)).trans (blk_cell (i := 1) HF1.out rfl).1)
      have hp2 := HP.out.below hb2
      have hbw := HS.out.trans (hb2.mono HS.out.size)
      have hg2 := (hb2.block _ (heap_lt HF0.out)).trans HF0.out
      have hgr2 := HG.out.below hb2
      have HP2 := Lib.hid hp2
      have HBW := Lib.hid hbw
      have HG2 := Lib.hid hg2
      have HGR := Lib.hid hgr2
      have H6 := Lib.hid h6
      clear hp2 hbw hg2 hgr2 hb2 f10 HNON HP HG HF0 HF1 HS h6
      go_loopw [21] (fun i wr => ∃ k : Nat, k ≤ pr.length ∧ i = .int .i64 k ∧ Below w2.heap.size w2 wr ∧ Hid (∀ j s, j < k → pr[j]? = some s → symB g s = true)) (fun i _ => pr.length - (intOf i).toNat)
      case atStart => exact ⟨0, Nat.zero_le _, rfl, Below.refl _ _, Lib.hid (by intro j s hj; omega)⟩
      case round =>
        obtain ⟨k, hk, rfl, hbe, HB⟩ := hrel
        by_cases hlt : k < pr.length
        · obtain ⟨x, hx⟩ : ∃ x, pr[k]? = some x := ⟨_, List.getElem?_eq_getElem hlt⟩
          have hxm := List.mem_of_getElem? hx
          obtain ⟨b, off, rfl, hb, hc⟩ := (HP2.out.below hbe).get (by unfold nums; intro e; rw [List.map_eq_nil_iff] at e; rw [e] at hlt; simp at hlt)
          have x0 := hc k _ (nums_at hx)
          have e1 : (k : Int) < pr.length := by omega
          have hgq := (hbe.block _ (heap_lt HG2.out)).trans HG2.out
          have g0 := (blk_cell (i := 0) hgq rfl).1
          have g1 := (blk_cell (i := 1) hgq rfl).1
          have g2 := (blk_cell (i := 2) hgq rfl).1
          have hit := isTerm_any _ g x wr (HGR.out.below hbe)
          have hin := fun W (hW : Below wr.heap.size wr W) => isNon_any _ g x W ((HGR.out.below hbe).below hW) (HS2.out x hxm)
          have HIT := Lib.hid hit
          have HIN := Lib.hid hin
          have HX := Lib.hid hx
          have HXM := Lib.hid hxm
          have HGQ := Lib.hid hgq
          have HBE := Lib.hid hbe
          have hsy : symB g x = (termB g x || nonB g x) := rfl
          have HSY := Lib.hid hsy
          clear hit hin hc hx hxm hgq hbe hsy
          cases ht : termB g x with
          | true =>
            have HB2 : Hid (∀ j s, j < k + 1 → pr[j]? = some s → symB g s = true) := Lib.hid fun j s hj hs => by
              by_cases h : j = k
              · subst h; rw [HX.out] at hs; cases hs; rw [HSY.out, ht]; rfl
              · exact HB.out j s (by omega) hs
            go_wp2_with (go_at_call 69; refine HIT.out.mono ?_; rintro e w3 ⟨rfl, hb3⟩; simp only [ht])
            go_roundw
            case rel => exact ⟨k + 1, by omega, by go_num, HBE.out.trans (hb3.mono HBE.out.size), HB2⟩
            case measure => simp [intOf]; omega
          | false =>
            cases hn2 : nonB g x with
            | true =>
              have HB2 : Hid (∀ j s, j < k + 1 → pr[j]? = some s → symB g s = true) := Lib.hid fun j s hj hs => by
                by_cases h : j = k
                · subst h; rw [HX.out] at hs; cases hs; rw [HSY.out, ht, hn2]; rfl
                · exact HB.out j s (by omega) hs
              go_wp2_with (first
                | (go_at_call 69; refine HIT.out.mono ?_; rintro e w3 ⟨rfl, hb3⟩; simp only [ht]
                   have hgq3 := (hb3.block _ (heap_lt HGQ.out)).trans HGQ.out
                   have g03 := (blk_cell (i := 0) hgq3 rfl).1
                   have g13 := (blk_cell (i := 1) hgq3 rfl).1
                   have g23 := (blk_cell (i := 2) hgq3 rfl).1)
                | (go_at_call 71; refine (HIN.out _ hb3).mono ?_; rintro e w4 ⟨rfl, hb4⟩; simp only [hn2]))
              go_roundw
              case rel => exact ⟨k + 1, by omega, by go_num, (HBE.out.trans (hb3.mono HBE.out.size)).trans (hb4.mono (Nat.le_trans HBE.out.size hb3.size)), HB2⟩
              case measure => simp [intOf]; omega
            | false =>
              have HR := Lib.hid (show prodB g (pl, pr) = false by
                unfold prodB
                rw [Bool.and_eq_false_iff]
                right
                rw [Bool.and_eq_false_iff]
                right
                rw [List.all_eq_false]
                exact ⟨x, HXM.out, by rw [HSY.out, ht, hn2]; simp⟩)
              go_wp2_with (first
                | (go_at_call 69; refine HIT.out.mono ?_; rintro e w3 ⟨rfl, hb3⟩; simp only [ht]
                   have hgq3 := (hb3.block _ (heap_lt HGQ.out)).trans HGQ.out
                   have g03 := (blk_cell (i := 0) hgq3 rfl).1
                   have g13 := (blk_cell (i := 1) hgq3 rfl).1
                   have g23 := (blk_cell (i := 2) hgq3 rfl).1)
                | (go_at_call 71; refine (HIN.out _ hb3).mono ?_; rintro e w4 ⟨rfl, hb4⟩; simp only [hn2]))
              go_ret
              have h1 := HBE.out.trans (hb3.mono HBE.out.size)
              have h2 := h1.trans (hb4.mono h1.size)
              exact ⟨ret_bool HR.out.symm, HBW.out.trans (h2.mono HBW.out.size)⟩
        · have HR := Lib.hid (show prodB g (pl, pr) = true by
            unfold prodB
            simp only
            rw [hn, decide_eq_true H6.out, Bool.true_and, Bool.true_and, List.all_eq_true]
            intro s hs
            obtain ⟨j, hj, ej⟩ := List.getElem_of_mem hs
            exact HB.out j s (by omega) (by rw [List.getElem?_eq_getElem hj, ej]))
          have e1 : ¬ (k : Int) < pr.length := by omega
          clear HB
          go_wp2
          go_ret
          exact ⟨ret_bool HR.out.symm, HBW.out.trans (hbe.mono HBW.out.size)⟩
    · have h6b : (6 : Int) < pr.length := by omega
      go_wp2_with (go_at_call 71; refine HNON.out.mono ?_; rintro e w2 ⟨rfl, hb2⟩; simp only [hn]; have f10 := (hb2.cell (p := ⟨w.heap.size + 1, 1, none⟩) (heap_lt HF1.out)).trans (blk_cell (i := 1) HF1.out rfl).1)
      go_ret
      exact ⟨ret_bool (by unfold prodB; simp only; rw [hn, decide_eq_false h6]; rfl), HS.out.trans (hb2.mono HS.out.size)⟩

end Go.Proofs.Ytdnlbmdmaiacaaa
