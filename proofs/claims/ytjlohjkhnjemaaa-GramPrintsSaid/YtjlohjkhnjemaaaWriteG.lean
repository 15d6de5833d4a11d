/- gram.write: the text of a grammar. -/
import Derived.Test.YtjlohjkhnjemaaaWrite
import Derived.Test.YtjlohjkhnjemaaaName
import Derived.Laws.Concat
namespace Go.Proofs.Ytjlohjkhnjemaaa
open Go.RowKit
open Doc

def rowTxt (g : Gr) (r : List Int) : List UInt8 := r.flatMap fun s => 32 :: nameG g s
def sepT (first : Bool) : List UInt8 := if first then [58] else [32, 124]
def midF (g : Gr) (i : Nat) : List (Int × List Int) → Bool → List UInt8
  | [], _ => []
  | p :: l, first => if p.1 = ((100 + i : Nat) : Int) then sepT first ++ (rowTxt g p.2 ++ midF g i l false) else midF g i l first
def wrF (g : Gr) : List (List UInt8) → Nat → List UInt8
  | [], _ => []
  | n :: l, i => n ++ (midF g i g.prods true ++ 10 :: wrF g l (i + 1))
def writeT (g : Gr) : List UInt8 := wrF g g.nons 0

theorem cat2_run (a b : List UInt8) (w : World) (h : a.length + b.length ≤ 10000000) : (Op.stringOp .add ⟨a.toArray⟩ ⟨b.toArray⟩).run Try.prog w = .ok (.string ⟨(a ++ b).toArray⟩) w := by
  rw [run_string_add_sum w _ _ (by show a.length + b.length ≤ _; omega)]
  have e : (⟨a.toArray⟩ : ByteArray) ++ ⟨b.toArray⟩ = ⟨(a ++ b).toArray⟩ := ByteArray.ext (by simp)
  rw [e]

theorem TextAt.below {B b : Nat} {l : List UInt8} {w w' : World} (h : TextAt B b l w) (hb : Below w.heap.size w w') : TextAt B b l w' := by
  have one : ∀ p, Lib.BuilderAt 146 5 B b p (Lib.byteCells l) w → Lib.BuilderAt 146 5 B b p (Lib.byteCells l) w' := by
    rintro p ⟨hB, v, hbk, hown, hne⟩
    exact ⟨hB, v, (hb.block _ (heap_lt hbk)).trans hbk, own_same hown (fun g _ hg => hb.block g hg), hne⟩
  rcases h with h | h
  · exact .inl (one _ h)
  · exact .inr (one _ h)

theorem TextAt.lt {B b : Nat} {l : List UInt8} {w : World} (h : TextAt B b l w) : b < w.heap.size := by
  rcases h with ⟨_, v, hbk, _⟩ | ⟨_, v, hbk, _⟩ <;> exact heap_lt hbk

set_option maxRecDepth 100000 in
set_option maxHeartbeats 8000000 in
theorem write_any (v : Value) (g : Gr) (w : World) (hg : GramAt w v g) (hf : Fits g) (hs : SmallG g) (ht : ∀ x ∈ g.terms, x.length ≤ 1000000) (hn : ∀ x ∈ g.nons, x.length ≤ 1000000) (hl : (writeT g).length ≤ 1000000) :
    Calls Try.prog 64 #[v] w fun e w' => e = .returned (.string ⟨(writeT g).toArray⟩) ∧ Below w.heap.size w w' := by
  have hg0 := hg
  obtain ⟨a1, a2, a3, c1, c2, c3, ls, rfl, hp, k1, k2, k3, k4, k5⟩ := hg
  have hpl : ls.length = g.prods.length := by rw [← hp, List.length_map]
  have hll : ls.length ≤ 1000000 := by have := hf.2.2.1; omega
  have hn1 : g.nons.length ≤ 1000000 := hf.2.1
  have HP := Lib.hid hp
  have HPL := Lib.hid hpl
  have HF := Lib.hid hf
  have HSM := Lib.hid hs
  have HT := Lib.hid ht
  have HN := Lib.hid hn
  have HL := Lib.hid hl
  have HG := Lib.hid hg0
  have K2 := Lib.hid k2
  have K3 := Lib.hid k3
  have K4 := Lib.hid k4
  clear hg0 hp hpl hf hs ht hn hl k1 k2 k3 k4 k5
  go_enter Try.func64, Try.ntmps64
  go_wp2
  have hS : Below w.heap.size w ((w.alloc (.cells #[.slice a1 g.terms.length c1, .slice a2 g.nons.length c2, .slice a3 ls.length c3] 28)).alloc (.cells #[.pointer none, .slice none 0 0] 146)) := ((Below.refl _ _).alloc (Nat.le_refl _) _).alloc (by simp) _
  have hT : TextAt (w.heap.size + 1) (w.heap.size + 1) [] ((w.alloc (.cells #[.slice a1 g.terms.length c1, .slice a2 g.nons.length c2, .slice a3 ls.length c3] 28)).alloc (.cells #[.pointer none, .slice none 0 0] 146)) := by
    refine .inl ⟨Nat.le_refl _, .slice none 0 0, ?_, World.ownsRow_nil _ _ _ _, by simp [Value.ownBlock]⟩
    have := heap_alloc_new (w.alloc (.cells #[.slice a1 g.terms.length c1, .slice a2 g.nons.length c2, .slice a3 ls.length c3] 28)) (.cells #[.pointer none, .slice none 0 0] 146)
    simpa using this
  have hq : ((w.alloc (.cells #[.slice a1 g.terms.length c1, .slice a2 g.nons.length c2, .slice a3 ls.length c3] 28)).alloc (.cells #[.pointer none, .slice none 0 0] 146)).heap[w.heap.size]? = some (.cells #[.slice a1 g.terms.length c1, .slice a2 g.nons.length c2, .slice a3 ls.length c3] 28) := by
    rw [Below.heap_alloc _ _ _ (by simp)]; exact heap_alloc_new w _
  have HQ := Lib.hid hq
  have HS := Lib.hid hS
  have HT0 := Lib.hid hT
  clear hq hS hT
  generalize ((w.alloc (.cells #[.slice a1 g.terms.length c1, .slice a2 g.nons.length c2, .slice a3 ls.length c3] 28)).alloc (.cells #[.pointer none, .slice none 0 0] 146)) = S at *
  have hbs : w.heap.size + 1 < S.heap.size := HT0.out.lt
  go_loopw [14] (fun i wr => ∃ (k : Nat) (acc : List UInt8), k ≤ g.nons.length ∧ i = .int .i64 k ∧ TextAt (w.heap.size + 1) (w.heap.size + 1) acc wr ∧ Below (w.heap.size + 1) S wr ∧ Hid (writeT g = acc ++ wrF g (g.nons.drop k) k)) (fun i _ => g.nons.length - (intOf i).toNat)
  case atStart => exact ⟨0, [], Nat.zero_le _, rfl, HT0.out, Below.refl _ _, Lib.hid (by simp [writeT])⟩
  case round =>
    obtain ⟨k, acc, hk, rfl, htx, hbe, HR⟩ := hrel
    have hbw := HS.out.trans (hbe.mono (Nat.le_succ _))
    by_cases hlt : k < g.nons.length
    · obtain ⟨n, hnk⟩ : ∃ n, g.nons[k]? = some n := ⟨_, List.getElem?_eq_getElem hlt⟩
      have hnl := HN.out n (List.mem_of_getElem? hnk)
      obtain ⟨b2, o2, rfl, hb2l, hc2⟩ := (K2.out.below hbw).get (by unfold strs; intro e; rw [List.map_eq_nil_iff] at e; rw [e] at hlt; simp at hlt)
      have x0 := hc2 k _ (strs_at hnk)
      have e1 : (k : Int) < g.nons.length := by omega
      have hstep : wrF g (g.nons.drop k) k = n ++ (midF g k g.prods true ++ 10 :: wrF g (g.nons.drop (k + 1)) (k + 1)) := by
        rw [List.drop_eq_getElem_cons hlt]
        have : g.nons[k] = n := by rw [List.getElem?_eq_getElem hlt] at hnk; exact Option.some.inj hnk
        rw [this]; rfl
      have hR1 := HR.out.trans (by rw [hstep])
      have hL := HL.out
      have hlen : acc.length + n.length ≤ 1000000 := by have := congrArg List.length hR1; simp only [List.length_append] at this; omega
      have HR1 := Lib.hid hR1
      have hws := writeString_any _ _ acc n wr htx (by omega) (Nat.le_of_lt htx.lt)
      have HWS := Lib.hid hws
      have HBE := Lib.hid hbe
      have HBW := Lib.hid hbw
      have HQR := Lib.hid (fun W (hW : Below (w.heap.size + 1) S W) => (hW.block _ (Nat.lt_succ_self _)).trans HQ.out)
      clear hws hstep hR1 hL hc2 hnk hbe hbw HR htx
      go_wp2_with (go_at_call 109; refine HWS.out.mono ?_; rintro e w2 ⟨⟨v2, rfl⟩, ht2, hb2, _⟩; have q2 := (blk_cell (i := 2) (HQR.out w2 (HBE.out.trans hb2)) rfl).1)
      go_loopw [6, 24] (fun sp i w3 => ∃ (m : Nat) (acc2 : List UInt8) (first : Bool), m ≤ ls.length ∧ i = .int .i64 m ∧ sp = .string ⟨(sepT first).toArray⟩ ∧ TextAt (w.heap.size + 1) (w.heap.size + 1) acc2 w3 ∧ Below (w.heap.size + 1) S w3 ∧
        Hid (writeT g = acc2 ++ (midF g k (g.prods.drop m) first ++ 10 :: wrF g (g.nons.drop (k + 1)) (k + 1)))) (fun _ i _ => ls.length - (intOf i).toNat)
      case atStart => exact ⟨0, acc ++ n, true, Nat.zero_le _, rfl, rfl, ht2, HBE.out.trans hb2, Lib.hid (by rw [HR1.out]; simp)⟩
      case round =>
        clear ht2 hb2 q2
        obtain ⟨m, acc2, first, hm, rfl, rfl, htx, hbe, HR2⟩ := hrel
        rename World => w3
        by_cases hmlt : m < ls.length
        · obtain ⟨p, hpm⟩ : ∃ p, ls[m]? = some p := ⟨_, List.getElem?_eq_getElem hmlt⟩
          have hpmem := List.mem_of_getElem? hpm
          have gp : g.prods[m]? = some p.plain := by rw [← HP.out, List.getElem?_map, hpm]; rfl
          have hgmem : p.plain ∈ g.prods := List.mem_of_getElem? gp
          have hmid : midF g k (g.prods.drop m) first = if p.left = ((100 + k : Nat) : Int) then sepT first ++ (rowTxt g p.right ++ midF g k (g.prods.drop (m + 1)) false) else midF g k (g.prods.drop (m + 1)) first := by
            have hml : m < g.prods.length := by have := HPL.out; omega
            rw [List.drop_eq_getElem_cons hml]
            have : g.prods[m] = p.plain := by rw [List.getElem?_eq_getElem hml] at gp; exact Option.some.inj gp
            rw [this]; rfl
          have hbw3 := HS.out.trans (hbe.mono (Nat.le_succ _))
          obtain ⟨b3, o3, rfl, hb3l, hc3⟩ := (K3.out.below hbw3).get (by intro e; have := (lays_at ls m p hpm).1; rw [e] at this; simp at this)
          have y0 := hc3 _ _ (lays_at ls m p hpm).1
          have y1 := hc3 _ _ (lays_at ls m p hpm).2
          rw [← Nat.add_assoc] at y1
          have f1 : (m : Int) < ls.length := by omega
          have hpc := fun W (hW : Below w.heap.size w W) => (K4.out p hpmem).below hW
          have hsm := (HSM.out _ hgmem).2
          have hprl := HF.out.2.2.2 _ hgmem
          obtain ⟨pl, pr, pa, pc⟩ := p
          simp only [Lay.plain] at *
          have hR3 := HR2.out.trans (by rw [hmid])
          have HAL := Lib.hid (hbe.alloc (by have := htx.lt; omega) (.cells #[.int .i64 pl, .slice pa pr.length pc] 91))
          have HTA := Lib.hid (htx.below ((Below.refl _ _).alloc (Nat.le_refl _) (.cells #[.int .i64 pl, .slice pa pr.length pc] 91)))
          have HPBX := Lib.hid (heap_alloc_new w3 (.cells #[.int .i64 pl, .slice pa pr.length pc] 91))
          have HPC := Lib.hid hpc
          have HSX := Lib.hid hsm
          clear hc3 hpm hpmem gp hgmem hmid hbw3 hpc hsm hbe htx HR2
          by_cases hle : pl = ((100 + k : Nat) : Int)
          · have hne : (pl != 100 + (k : Int)) = false := by rw [hle]; push_cast; simp
            rw [if_pos hle] at hR3
            have hL := HL.out
            have hlen3 : acc2.length + (sepT first).length ≤ 1000000 := by have := congrArg List.length hR3; simp only [List.length_append] at this; omega
            have HWS3 := Lib.hid (writeString_any _ _ acc2 (sepT first) _ HTA.out (by omega) (Nat.le_of_lt HTA.out.lt))
            have HR3 := Lib.hid hR3
            clear hR3 hL hle
            go_wp2_with (go_at_call 109; refine HWS3.out.mono ?_; rintro e w4 ⟨⟨v4, rfl⟩, ht4, hb4, hst4⟩; have z1 := (blk_cell (i := 1) (hst4 _ _ _ _ HPBX.out (by decide)) rfl).1)
            have hbe4 := HAL.out.trans hb4
            have HBE4 := Lib.hid hbe4
            clear hb4 hst4 hbe4 z1 HTA HAL HPBX
            go_loopw [38] (fun i w5 => ∃ (j : Nat) (acc3 : List UInt8), j ≤ pr.length ∧ i = .int .i64 j ∧ TextAt (w.heap.size + 1) (w.heap.size + 1) acc3 w5 ∧ Below (w.heap.size + 1) S w5 ∧
              Hid (writeT g = acc3 ++ (rowTxt g (pr.drop j) ++ (midF g k (g.prods.drop (m + 1)) false ++ 10 :: wrF g (g.nons.drop (k + 1)) (k + 1))))) (fun i _ => pr.length - (intOf i).toNat)
            case atStart => exact ⟨0, acc2 ++ sepT first, Nat.zero_le _, rfl, ht4, HBE4.out, Lib.hid (by rw [HR3.out]; simp)⟩
            case round =>
              clear ht4 HBE4
              obtain ⟨j, acc3, hj, rfl, htx, hbe, HR4⟩ := hrel
              rename World => w5
              by_cases hjl : j < pr.length
              · obtain ⟨x, hx⟩ : ∃ x, pr[j]? = some x := ⟨_, List.getElem?_eq_getElem hjl⟩
                have hrow : rowTxt g (pr.drop j) = (32 :: nameG g x) ++ rowTxt g (pr.drop (j + 1)) := by
                  rw [List.drop_eq_getElem_cons hjl]
                  have : pr[j] = x := by rw [List.getElem?_eq_getElem hjl] at hx; exact Option.some.inj hx
                  rw [this]; rfl
                have hbw5 := HS.out.trans (hbe.mono (Nat.le_succ _))
                obtain ⟨b5, o5, rfl, hb5l, hc5⟩ := (HPC.out w5 hbw5).get (by unfold nums; intro e; rw [List.map_eq_nil_iff] at e; rw [e] at hjl; simp at hjl)
                have u0 := hc5 j _ (nums_at hx)
                have f5 : (j : Int) < pr.length := by omega
                have hq5 := HQR.out w5 hbe
                have q0 := (blk_cell (i := 0) hq5 rfl).1
                have q1 := (blk_cell (i := 1) hq5 rfl).1
                have q2 := (blk_cell (i := 2) hq5 rfl).1
                have hR5 := HR4.out.trans (by rw [hrow])
                have hL := HL.out
                have hlen5 : acc3.length + (32 :: nameG g x).length ≤ 1000000 := by have := congrArg List.length hR5; simp only [List.length_append] at this ⊢; omega
                have HNM := Lib.hid (gname_any _ g x w5 (HG.out.below hbw5) (HSX.out x (List.mem_of_getElem? hx)) HT.out HN.out)
                have hcat : ∀ W, (Op.stringOp .add ⟨#[32]⟩ ⟨(nameG g x).toArray⟩).run Try.prog W = .ok (.string ⟨(32 :: nameG g x).toArray⟩) W := fun W => cat2_run [32] (nameG g x) W (by simp only [List.length_cons, List.length_nil] at hlen5 ⊢; omega)
                have HWS5 := Lib.hid fun W (hW : Below w5.heap.size w5 W) => writeString_any _ _ acc3 (32 :: nameG g x) W (htx.below hW) (by omega) (by have := htx.lt; have := hW.size; omega)
                have HR5 := Lib.hid hR5
                have HBE5 := Lib.hid hbe
                have HLT := Lib.hid htx.lt
                clear hc5 hx hrow hbw5 hq5 hR5 hL hbe htx HR4
                go_wp2_with (first
                  | (go_at_call 24; refine HNM.out.mono ?_; rintro e w6 ⟨rfl, hb6⟩)
                  | (go_at_call 109; refine (HWS5.out _ hb6).mono ?_; rintro e w7 ⟨⟨v7, rfl⟩, ht7, hb7, _⟩))
                go_roundw
                case rel => exact ⟨j + 1, acc3 ++ (32 :: nameG g x), by omega, by go_num, ht7, (HBE5.out.trans (hb6.mono (by have := HLT.out; omega))).trans hb7, Lib.hid (by rw [HR5.out]; simp)⟩
                case measure => simp [intOf]; omega
              · have hrow : rowTxt g (pr.drop j) = [] := by rw [List.drop_of_length_le (by omega)]; rfl
                have HR5 := Lib.hid (HR4.out.trans (by rw [hrow]))
                have f5 : ¬ (j : Int) < pr.length := by omega
                clear hrow HR4
                go_wp2
                go_roundw
                case rel => exact ⟨m + 1, acc3, false, by omega, by go_num, rfl, htx, hbe, Lib.hid (by rw [HR5.out]; simp)⟩
                case measure => simp [intOf]; omega
          · have hne : (pl != 100 + (k : Int)) = true := by
              simp only [bne_iff_ne, ne_eq]
              intro e
              exact hle (by rw [e]; push_cast; rfl)
            rw [if_neg hle] at hR3
            have HR3 := Lib.hid hR3
            clear hR3 hle
            go_wp2
            go_roundw
            case rel => exact ⟨m + 1, acc2, first, by omega, by go_num, rfl, HTA.out, HAL.out, HR3⟩
            case measure => simp [intOf]; omega
        · have hmid : midF g k (g.prods.drop m) first = [] := by rw [List.drop_of_length_le (by have := HPL.out; omega)]; rfl
          have hR3 := HR2.out
          rw [hmid] at hR3
          simp only [List.nil_append] at hR3
          have hL := HL.out
          have hlen3 : acc2.length + [(10 : UInt8)].length ≤ 1000000 := by have := congrArg List.length hR3; simp only [List.length_append, List.length_cons, List.length_nil] at this ⊢; omega
          have hws := writeString_any _ _ acc2 [10] w3 htx (by omega) (Nat.le_of_lt htx.lt)
          have HWS3 := Lib.hid hws
          have HR3 := Lib.hid hR3
          have HBE3 := Lib.hid hbe
          have f1 : ¬ (m : Int) < ls.length := by omega
          clear hws hR3 hL hbe htx HR2 hmid
          go_wp2_with (go_at_call 109; refine HWS3.out.mono ?_; rintro e w4 ⟨⟨v4, rfl⟩, ht4, hb4, _⟩)
          go_roundw
          case rel => exact ⟨k + 1, acc2 ++ [10], by omega, by go_num, ht4, HBE3.out.trans hb4, Lib.hid (by rw [HR3.out]; simp)⟩
          case measure => simp [intOf]; omega
    · have hend : wrF g (g.nons.drop k) k = [] := by rw [List.drop_of_length_le (by omega)]; rfl
      have HE := Lib.hid (show writeT g = acc by rw [HR.out, hend]; simp)
      have hst := Try.Builder_String_any (w.heap.size + 1) (w.heap.size + 1) acc wr htx (Nat.le_of_lt htx.lt)
      have HST := Lib.hid hst
      have HBW := Lib.hid hbw
      have e1 : ¬ (k : Int) < g.nons.length := by omega
      clear hst hend hbw HR htx
      go_wp2_with (go_at_call 101; refine HST.out.mono ?_; rintro e w9 ⟨rfl, hb9⟩)
      go_ret
      exact ⟨by rw [HE.out]; rfl, HBW.out.trans (hb9.mono (Nat.le_succ _))⟩

end Go.Proofs.Ytjlohjkhnjemaaa
