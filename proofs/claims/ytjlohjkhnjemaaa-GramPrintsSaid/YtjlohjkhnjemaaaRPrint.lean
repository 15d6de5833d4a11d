/- The document's own Print: walked. -/
import Derived.Test.YtjlohjkhnjemaaaPrintG
import Derived.Test.YtjlohjkhnjemaaaMoreF
import Derived.Test.YtjlohjkhnjemaaaGParse
import Derived.Test.YtjlohjkhnjemaaaGChkF
import Derived.Test.YtjlohjkhnjemaaaRefs
set_option linter.unusedVariables false
namespace Go.Proofs.Ytjlohjkhnjemaaa
open Go.RowKit
open Doc

theorem one_allocD (w : World) (o0 : Obj) : Below w.heap.size w (w.alloc o0) ∧ (w.alloc o0).heap.size = w.heap.size + 1 ∧ (w.alloc o0).heap[w.heap.size]? = some o0 :=
  ⟨(Below.refl _ _).alloc (Nat.le_refl _) _, by simp, heap_alloc_new w o0⟩
def sepD (first : Bool) : List UInt8 := if first then [] else [32, 124]
def midD (g : Gr) (i : Nat) : List (Int × List Int) → Bool → List UInt8
  | [], _ => []
  | p :: l, first => if p.1 = ((100 + i : Nat) : Int) then sepD first ++ (rowTxt g p.2 ++ midD g i l false) else midD g i l first
def wrD (g : Gr) : List (List UInt8) → Nat → List UInt8
  | [], _ => []
  | n :: l, i => n ++ 58 :: (midD g i g.prods true ++ 10 :: wrD g l (i + 1))

theorem midD_false (g : Gr) (i : Nat) : ∀ l, midD g i l false = midF g i l false
  | [] => rfl
  | p :: l => by
    unfold midD midF
    rw [midD_false g i l]
    rfl
theorem midD_true (g : Gr) (i : Nat) : ∀ l : List (Int × List Int), (∃ p ∈ l, p.1 = ((100 + i : Nat) : Int)) → midF g i l true = 58 :: midD g i l true
  | [], h => by obtain ⟨p, hp, _⟩ := h; cases hp
  | p :: l, h => by
    unfold midD midF
    by_cases hp : p.1 = ((100 + i : Nat) : Int)
    · rw [if_pos hp, if_pos hp, midD_false]; rfl
    · rw [if_neg hp, if_neg hp]
      refine midD_true g i l ?_
      obtain ⟨q, hq, e⟩ := h
      rcases List.mem_cons.1 hq with rfl | hq
      · exact absurd e hp
      · exact ⟨q, hq, e⟩
theorem wrD_eq {g : Gr} (h : CheckG g) : ∀ (l : List (List UInt8)) (i : Nat), i + l.length ≤ g.nons.length → wrD g l i = wrF g l i
  | [], _, _ => rfl
  | n :: l, i, hi => by
    simp only [List.length_cons] at hi
    unfold wrD wrF
    rw [midD_true g i g.prods (h.some_ i (by omega)), wrD_eq h l (i + 1) (by omega)]
    rfl
theorem writeD {g : Gr} (h : CheckG g) : wrD g g.nons 0 = writeT g := wrD_eq h _ _ (by omega)
theorem write_lenD {g : Gr} (h : CheckG g) : (writeT g).length ≤ 100000 := by
  have h1 := wr_len h g.nons 0 h.nk
  have h2 := h.n8
  unfold writeT
  omega

set_option maxRecDepth 100000 in
set_option maxHeartbeats 8000000 in
theorem rgprint_any (v : Value) (g : Gr) (w : World) (hg : GramAt w v g) (hf : Fits g) (ht : ∀ x ∈ g.terms, x.length ≤ 1000000) (hn : ∀ x ∈ g.nons, x.length ≤ 1000000) :
    Calls Try.prog 14 #[v] w fun e w' => e = .returned (.tuple #[.string ⟨(printS g).toArray⟩, .bool (decide (printE g = 0))]) ∧ Below w.heap.size w w' := by
  have hg0 := hg
  obtain ⟨a1, a2, a3, c1, c2, c3, ls, rfl, hp, k1, k2, k3, k4, k5⟩ := hg
  have hpl : ls.length = g.prods.length := by rw [← hp, List.length_map]
  have hS : Below w.heap.size w (w.alloc (.cells #[.slice a1 g.terms.length c1, .slice a2 g.nons.length c2, .slice a3 ls.length c3] 28)) := (Below.refl _ _).alloc (Nat.le_refl _) _
  have hq := heap_alloc_new w (.cells #[.slice a1 g.terms.length c1, .slice a2 g.nons.length c2, .slice a3 ls.length c3] 28)
  have hck := check_any rname_any _ g _ (hg0.below hS) hf.1 hf.2.1 hf.2.2.1 hf.2.2.2 (fun x hx => (List.mem_append.1 hx).elim (ht x) (hn x))
  have HQ := Lib.hid hq
  have HS := Lib.hid hS
  have HG := Lib.hid hg0
  have HP := Lib.hid hp
  have HPL := Lib.hid hpl
  have HF := Lib.hid hf
  have HT := Lib.hid ht
  have HN := Lib.hid hn
  have K2 := Lib.hid k2
  have K3 := Lib.hid k3
  have K4 := Lib.hid k4
  have hll : ls.length ≤ 1000000 := by have := hf.2.2.1; omega
  have hn1 : g.nons.length ≤ 1000000 := hf.2.1
  clear hg0 hS hq hp hpl hf ht hn k1 k2 k3 k4 k5
  by_cases hc : CheckG g
  · have hok : okB g = true := (okB_iff g).2 hc
    rw [hok] at hck
    have HCK := Lib.hid hck
    have HC := Lib.hid hc
    have HL := Lib.hid (show (wrD g g.nons 0).length ≤ 1000000 by rw [writeD hc]; exact write_len hc)
    clear hck hok hc
    go_enter Try.func14, Try.ntmps14
    go_upto_region 4 with (go_at_call 15; refine HCK.out.mono ?_; rintro e w2 ⟨rfl, hb2⟩)
    have HB2 := Lib.hid hb2
    clear hb2 HCK
    generalize w.alloc (.cells #[.slice a1 g.terms.length c1, .slice a2 g.nons.length c2, .slice a3 ls.length c3] 28) = S at *
    have hbs : w.heap.size < S.heap.size := heap_lt HQ.out
    have HQR := Lib.hid (fun W (hW : Below S.heap.size S W) => (hW.block _ hbs).trans HQ.out)
    have q2 := (blk_cell (i := 1) (HQR.out w2 HB2.out) rfl).1
    have ql := heap_lt (HQR.out w2 HB2.out)
    go_wp2
    clear q2 ql
    go_loopw [4, 22] (fun sv i wr => ∃ (k : Nat) (acc : List UInt8), k ≤ g.nons.length ∧ i = .int .i64 k ∧ sv = .string ⟨acc.toArray⟩ ∧ Below S.heap.size S wr ∧ Hid (wrD g g.nons 0 = acc ++ wrD g (g.nons.drop k) k)) (fun _ i _ => g.nons.length - (intOf i).toNat)
    case atStart => exact ⟨0, [], Nat.zero_le _, rfl, rfl, HB2.out, Lib.hid (by simp)⟩
    case round =>
      obtain ⟨k, acc, hk, rfl, rfl, hbe, HR⟩ := hrel
      have hbw := HS.out.trans (hbe.mono HS.out.size)
      by_cases hlt : k < g.nons.length
      · obtain ⟨n, hnk⟩ : ∃ n, g.nons[k]? = some n := ⟨_, List.getElem?_eq_getElem hlt⟩
        have hnl := HN.out n (List.mem_of_getElem? hnk)
        obtain ⟨b2, o2, rfl, hb2l, hc2⟩ := (K2.out.below hbw).get (by unfold strs; intro e; rw [List.map_eq_nil_iff] at e; rw [e] at hlt; simp at hlt)
        have x0 := hc2 k _ (strs_at hnk)
        have e1 : (k : Int) < g.nons.length := by omega
        have hstep : wrD g (g.nons.drop k) k = n ++ 58 :: (midD g k g.prods true ++ 10 :: wrD g (g.nons.drop (k + 1)) (k + 1)) := by
          rw [List.drop_eq_getElem_cons hlt]
          have : g.nons[k] = n := by rw [List.getElem?_eq_getElem hlt] at hnk; exact Option.some.inj hnk
          rw [this]; rfl
        have hR1 := HR.out.trans (by rw [hstep])
        have hL := HL.out
        have hlen : acc.length + (n.length + 1) ≤ 1000000 := by have := congrArg List.length hR1; simp only [List.length_append, List.length_cons] at this; omega
        have hcat1 : ∀ W, (Op.stringOp .add ⟨n.toArray⟩ ⟨#[58]⟩).run Try.prog W = .ok (.string ⟨(n ++ [58]).toArray⟩) W := fun W => cat2_run n [58] W (by simp only [List.length_cons, List.length_nil]; omega)
        have hcat2 : ∀ W, (Op.stringOp .add ⟨acc.toArray⟩ ⟨(n ++ [58]).toArray⟩).run Try.prog W = .ok (.string ⟨(acc ++ (n ++ [58])).toArray⟩) W := fun W => cat2_run acc (n ++ [58]) W (by simp only [List.length_append, List.length_cons, List.length_nil]; omega)
        have HR1 := Lib.hid hR1
        have HBE := Lib.hid hbe
        have q1 := (blk_cell (i := 1) (HQR.out wr hbe) rfl).1
        have q2 := (blk_cell (i := 2) (HQR.out wr hbe) rfl).1
        have ql := heap_lt (HQR.out wr hbe)
        clear hstep hR1 hL hc2 hnk hbe hbw HR
        go_wp2
        clear hcat1 hcat2 q1 q2 ql x0 hb2l
        go_loopw [4, 7, 34] (fun sv fv i w3 => ∃ (m : Nat) (acc2 : List UInt8) (first : Bool), m ≤ ls.length ∧ i = .int .i64 m ∧ fv = .bool first ∧ sv = .string ⟨acc2.toArray⟩ ∧ Below S.heap.size S w3 ∧
          Hid (wrD g g.nons 0 = acc2 ++ (midD g k (g.prods.drop m) first ++ 10 :: wrD g (g.nons.drop (k + 1)) (k + 1)))) (fun _ _ i _ => ls.length - (intOf i).toNat)
        case atStart => exact ⟨0, acc ++ (n ++ [58]), true, Nat.zero_le _, rfl, rfl, rfl, HBE.out, Lib.hid (by rw [HR1.out]; simp)⟩
        case round =>
          obtain ⟨m, acc2, first, hm, rfl, rfl, rfl, hbe, HR2⟩ := hrel
          rename World => w3
          by_cases hmlt : m < ls.length
          · obtain ⟨p, hpm⟩ : ∃ p, ls[m]? = some p := ⟨_, List.getElem?_eq_getElem hmlt⟩
            have hpmem := List.mem_of_getElem? hpm
            have gp : g.prods[m]? = some p.plain := by rw [← HP.out, List.getElem?_map, hpm]; rfl
            have hgmem : p.plain ∈ g.prods := List.mem_of_getElem? gp
            have hmid : midD g k (g.prods.drop m) first = if p.left = ((100 + k : Nat) : Int) then sepD first ++ (rowTxt g p.right ++ midD g k (g.prods.drop (m + 1)) false) else midD g k (g.prods.drop (m + 1)) first := by
              have hml : m < g.prods.length := by have := HPL.out; omega
              rw [List.drop_eq_getElem_cons hml]
              have : g.prods[m] = p.plain := by rw [List.getElem?_eq_getElem hml] at gp; exact Option.some.inj gp
              rw [this]; rfl
            have hbw3 := HS.out.trans (hbe.mono HS.out.size)
            obtain ⟨b3, o3, rfl, hb3l, hc3⟩ := (K3.out.below hbw3).get (by intro e; have := (lays_at ls m p hpm).1; rw [e] at this; simp at this)
            have y0 := hc3 _ _ (lays_at ls m p hpm).1
            have y1 := hc3 _ _ (lays_at ls m p hpm).2
            rw [← Nat.add_assoc] at y1
            have f1 : (m : Int) < ls.length := by omega
            have hpc := fun W (hW : Below w.heap.size w W) => (K4.out p hpmem).below hW
            have hprl := HF.out.2.2.2 _ hgmem
            obtain ⟨pl, pr, pa, pc⟩ := p
            simp only [Lay.plain] at *
            have hR3 := HR2.out.trans (by rw [hmid])
            obtain ⟨hbA, hsA, rA⟩ := one_allocD w3 (.cells #[.int .i64 pl, .slice pa pr.length pc] 91)
            have z0 := (blk_cell (i := 0) rA rfl).1
            have z1 := (blk_cell (i := 1) rA rfl).1
            have lz := heap_lt rA
            have HAL := Lib.hid (hbe.trans (hbA.mono hbe.size))
            have HPC := Lib.hid hpc
            have HQW := Lib.hid (HQR.out w3 hbe)
            clear hc3 hpm hpmem gp hgmem hmid hbw3 hpc hbe HR2 hbA hsA
            by_cases hle : pl = ((100 + k : Nat) : Int)
            · have hne : (pl != 100 + (k : Int)) = false := by rw [hle]; push_cast; simp
              rw [if_pos hle] at hR3
              have hL := HL.out
              have hlen3 : acc2.length + (sepD first).length ≤ 1000000 := by have := congrArg List.length hR3; simp only [List.length_append] at this; omega
              have hcat3 : first = false → ∀ W, (Op.stringOp .add ⟨acc2.toArray⟩ ⟨#[32, 124]⟩).run Try.prog W = .ok (.string ⟨(acc2 ++ [32, 124]).toArray⟩) W := fun h W => cat2_run acc2 [32, 124] W (by subst h; simp only [sepD, List.length_cons, List.length_nil] at hlen3 ⊢; simp at hlen3; omega)
              have HR3 := Lib.hid hR3
              have HZ := Lib.hid (fun W (hW : Below (w3.alloc (.cells #[.int .i64 pl, .slice pa pr.length pc] 91)).heap.size (w3.alloc (.cells #[.int .i64 pl, .slice pa pr.length pc] 91)) W) => (hW.block _ lz).trans rA)
              clear hR3 hL hle rA
              cases first
              all_goals
                try have hcat4 := hcat3 rfl
                clear hcat3
                go_wp2
                clear z0 z1 lz y0 y1 hb3l
                generalize (w3.alloc (.cells #[.int .i64 pl, .slice pa pr.length pc] 91)) = SA at *
                go_loopw [4, 50] (fun sv i w5 => ∃ (j : Nat) (acc3 : List UInt8), j ≤ pr.length ∧ i = .int .i64 j ∧ sv = .string ⟨acc3.toArray⟩ ∧ Below S.heap.size S w5 ∧
                  Hid (wrD g g.nons 0 = acc3 ++ (rowTxt g (pr.drop j) ++ (midD g k (g.prods.drop (m + 1)) false ++ 10 :: wrD g (g.nons.drop (k + 1)) (k + 1))))) (fun _ i _ => pr.length - (intOf i).toNat)
                case atStart => exact ⟨0, _, Nat.zero_le _, rfl, rfl, HAL.out, Lib.hid (by rw [HR3.out]; simp [sepD])⟩
                case round =>
                  obtain ⟨j, acc3, hj, rfl, rfl, hbe, HR4⟩ := hrel
                  rename World => w5
                  by_cases hjl : j < pr.length
                  · obtain ⟨x, hx⟩ : ∃ x, pr[j]? = some x := ⟨_, List.getElem?_eq_getElem hjl⟩
                    have hrow : rowTxt g (pr.drop j) = (32 :: nameG g x) ++ rowTxt g (pr.drop (j + 1)) := by
                      rw [List.drop_eq_getElem_cons hjl]
                      have : pr[j] = x := by rw [List.getElem?_eq_getElem hjl] at hx; exact Option.some.inj hx
                      rw [this]; rfl
                    have hbw5 := HS.out.trans (hbe.mono HS.out.size)
                    obtain ⟨b5, o5, rfl, hb5l, hc5⟩ := (HPC.out w5 hbw5).get (by unfold nums; intro e; rw [List.map_eq_nil_iff] at e; rw [e] at hjl; simp at hjl)
                    have u0 := hc5 j _ (nums_at hx)
                    have f5 : (j : Int) < pr.length := by omega
                    have hq5 := HQR.out w5 hbe
                    have q0 := (blk_cell (i := 0) hq5 rfl).1
                    have q1 := (blk_cell (i := 1) hq5 rfl).1
                    have q2 := (blk_cell (i := 2) hq5 rfl).1
                    have ql := heap_lt hq5
                    have hR5 := HR4.out.trans (by rw [hrow])
                    have hL := HL.out
                    have hlen5 : acc3.length + (32 :: nameG g x).length ≤ 1000000 := by have := congrArg List.length hR5; simp only [List.length_append] at this ⊢; omega
                    have HNM := Lib.hid (symName_any _ g x w5 (HG.out.below hbw5) HF.out.2.1 HF.out.1)
                    have hcat6 : ∀ W, (Op.stringOp .add ⟨#[32]⟩ ⟨(nameG g x).toArray⟩).run Try.prog W = .ok (.string ⟨(32 :: nameG g x).toArray⟩) W := fun W => cat2_run [32] (nameG g x) W (by simp only [List.length_cons, List.length_nil] at hlen5 ⊢; omega)
                    have hcat7 : ∀ W, (Op.stringOp .add ⟨acc3.toArray⟩ ⟨(32 :: nameG g x).toArray⟩).run Try.prog W = .ok (.string ⟨(acc3 ++ (32 :: nameG g x)).toArray⟩) W := fun W => cat2_run acc3 (32 :: nameG g x) W (by omega)
                    have HR5 := Lib.hid hR5
                    have HBE5 := Lib.hid hbe
                    clear hc5 hx hrow hbw5 hq5 hR5 hL hbe HR4
                    go_wp2_with (go_at_call 21; refine HNM.out.mono ?_; rintro e w6 ⟨rfl, hb6⟩)
                    go_roundw
                    case rel => exact ⟨j + 1, acc3 ++ (32 :: nameG g x), by omega, by go_num, rfl, HBE5.out.trans (hb6.mono HBE5.out.size), Lib.hid (by rw [HR5.out]; simp)⟩
                    case measure => simp [intOf]; omega
                  · have hrow : rowTxt g (pr.drop j) = [] := by rw [List.drop_of_length_le (by omega)]; rfl
                    have HR5 := Lib.hid (HR4.out.trans (by rw [hrow]))
                    have f5 : ¬ (j : Int) < pr.length := by omega
                    clear hrow HR4
                    go_wp2
                    go_roundw
                    case rel => exact ⟨m + 1, acc3, false, by omega, by go_num, rfl, rfl, hbe, Lib.hid (by rw [HR5.out]; simp)⟩
                    case measure => simp [intOf]; omega
            · have hne : (pl != 100 + (k : Int)) = true := by
                simp only [bne_iff_ne, ne_eq]
                intro e
                exact hle (by rw [e]; push_cast; rfl)
              rw [if_neg hle] at hR3
              have HR3 := Lib.hid hR3
              clear hR3 hle
              go_wp2
              go_roundw
              case rel => exact ⟨m + 1, acc2, first, by omega, by go_num, rfl, rfl, HAL.out, HR3⟩
              case measure => simp [intOf]; omega
          · have hmid : midD g k (g.prods.drop m) first = [] := by rw [List.drop_of_length_le (by have := HPL.out; omega)]; rfl
            have hR3 := HR2.out
            rw [hmid] at hR3
            simp only [List.nil_append] at hR3
            have hL := HL.out
            have hlen3 : acc2.length + [(10 : UInt8)].length ≤ 1000000 := by have := congrArg List.length hR3; simp only [List.length_append, List.length_cons, List.length_nil] at this ⊢; omega
            have hcat5 : ∀ W, (Op.stringOp .add ⟨acc2.toArray⟩ ⟨#[10]⟩).run Try.prog W = .ok (.string ⟨(acc2 ++ [10]).toArray⟩) W := fun W => cat2_run acc2 [10] W (by omega)
            have HR3 := Lib.hid hR3
            have HBE3 := Lib.hid hbe
            have f1 : ¬ (m : Int) < ls.length := by omega
            clear hR3 hL hbe HR2 hmid
            go_wp2
            go_roundw
            case rel => exact ⟨k + 1, acc2 ++ [10], by omega, by go_num, rfl, HBE3.out, Lib.hid (by rw [HR3.out]; simp)⟩
            case measure => simp [intOf]; omega
      · have hend : wrD g (g.nons.drop k) k = [] := by rw [List.drop_of_length_le (by omega)]; rfl
        have HE := Lib.hid (show writeT g = acc by rw [← writeD HC.out, HR.out, hend]; simp)
        have e1 : ¬ (k : Int) < g.nons.length := by omega
        have HBE := Lib.hid hbe
        clear hend hbw HR hbe
        have hwl := write_lenD HC.out
        rw [HE.out] at hwl
        have hps : (⟨acc.toArray⟩ : ByteArray).size ≤ 400000 := by show acc.length ≤ _; omega
        have HBW := Lib.hid fun W (hW : Below wr.heap.size wr W) => HBE.out.trans (hW.mono HBE.out.size)
        have hck2 := (chk_iff g).2 HC.out
        cases hpr : parse acc with
        | bad l c x =>
          have HPA := Lib.hid (rparse_no ⟨acc.toArray⟩ l c x wr hps hpr)
          have hx : x ≠ 0 := parse_err hpr
          have hx0 : ((x : Int) != 0) = true := by simp; omega
          have hno : ¬ (ChkP g ∧ parse (writeT g) = .ok g) := fun h => by have := h.2; rw [HE.out, hpr] at this; cases this
          have H1 := Lib.hid (show printS g = [] from if_neg hno)
          have H2 := Lib.hid (show printE g = 1 from if_neg hno)
          clear hno hpr hps hx hck2 hwl
          go_wp2_with (go_at_call 44; refine HPA.out.mono ?_; rintro e w4 ⟨rfl, hb4⟩)
          go_ret2
          have hb5 := (HBW.out _ hb4).alloc (HBW.out _ hb4).size (.cells #[.slice none 0 0, .slice none 0 0, .slice none 0 0] 28)
          exact ⟨by rw [H1.out, H2.out]; rfl, HS.out.trans (hb5.mono HS.out.size)⟩
        | ok h =>
          have HPA := Lib.hid (rparse_ok ⟨acc.toArray⟩ h wr hps hpr)
          have hgh := good_check h (read_good _ _ hpr)
          have HFH := Lib.hid (fits_checkP hgh)
          have HQR2 := Lib.hid fun W (hW : Below wr.heap.size wr W) => HQR.out W (HBW.out W hW)
          have HSG := Lib.hid fun (v1 : Value) W (hW : Below wr.heap.size wr W) (h1 : GramAt W v1 h) => sameG_any _ v1 g h W (HG.out.below (HS.out.trans ((HBW.out W hW).mono HS.out.size))) h1 HF.out HFH.out
          have hpe : printS g = (if g = h then acc else []) ∧ printE g = (if g = h then 0 else 1) := by
            by_cases he : g = h
            · subst he
              have hy : ChkP g ∧ parse (writeT g) = .ok g := ⟨hck2, by rw [HE.out]; exact hpr⟩
              exact ⟨by rw [if_pos rfl]; exact (if_pos hy).trans HE.out, by rw [if_pos rfl]; exact if_pos hy⟩
            · have hy : ¬ (ChkP g ∧ parse (writeT g) = .ok g) := fun x => by have := x.2; rw [HE.out, hpr] at this; exact he (End.ok.inj this).symm
              exact ⟨by rw [if_neg he]; exact if_neg hy, by rw [if_neg he]; exact if_neg hy⟩
          have HPE := Lib.hid hpe
          clear hpe hpr hps hgh hck2 hwl
          by_cases he : g = h
          · have hdd : decide (g = h) = true := decide_eq_true he
            have H1 := Lib.hid (HPE.out.1.trans (if_pos he))
            have H2 := Lib.hid (HPE.out.2.trans (if_pos he))
            clear HPE he
            go_wp2_with (first
              | (go_at_call 44; refine HPA.out.mono ?_; rintro e w4 ⟨v4, rfl, hb4, hg4⟩
                 have q4 := HQR2.out w4 hb4
                 have q40 := (blk_cell (i := 0) q4 rfl).1
                 have q41 := (blk_cell (i := 1) q4 rfl).1
                 have q42 := (blk_cell (i := 2) q4 rfl).1
                 have hg44 := hg4.at_
                 have hq4l := heap_lt q4
                 obtain ⟨d1, d2, d3, y1, y2, y3, ms, rfl, hdd4⟩ := hg44)
              | (go_at_call 18; refine (HSG.out _ _ (hb4.alloc hb4.size _) (hg4.at_.below ((Below.refl _ _).alloc (Nat.le_refl _) _))).mono ?_; rintro e w5 ⟨rfl, hb5⟩; simp only [hdd]))
            go_ret2
            have hb25 := hb4.alloc hb4.size (.cells #[.slice d1 h.terms.length y1, .slice d2 h.nons.length y2, .slice d3 ms.length y3] 28)
            have hb26 := HBW.out _ (hb25.trans (hb5.mono hb25.size))
            exact ⟨by rw [H1.out, H2.out]; rfl, HS.out.trans (hb26.mono HS.out.size)⟩
          · have hdd : decide (g = h) = false := decide_eq_false he
            have H1 := Lib.hid (HPE.out.1.trans (if_neg he))
            have H2 := Lib.hid (HPE.out.2.trans (if_neg he))
            clear HPE he
            go_wp2_with (first
              | (go_at_call 44; refine HPA.out.mono ?_; rintro e w4 ⟨v4, rfl, hb4, hg4⟩
                 have q4 := HQR2.out w4 hb4
                 have q40 := (blk_cell (i := 0) q4 rfl).1
                 have q41 := (blk_cell (i := 1) q4 rfl).1
                 have q42 := (blk_cell (i := 2) q4 rfl).1
                 have hg44 := hg4.at_
                 have hq4l := heap_lt q4
                 obtain ⟨d1, d2, d3, y1, y2, y3, ms, rfl, hdd4⟩ := hg44)
              | (go_at_call 18; refine (HSG.out _ _ (hb4.alloc hb4.size _) (hg4.at_.below ((Below.refl _ _).alloc (Nat.le_refl _) _))).mono ?_; rintro e w5 ⟨rfl, hb5⟩; simp only [hdd]))
            go_ret2
            have hb25 := hb4.alloc hb4.size (.cells #[.slice d1 h.terms.length y1, .slice d2 h.nons.length y2, .slice d3 ms.length y3] 28)
            have hb26 := HBW.out _ (hb25.trans (hb5.mono hb25.size))
            exact ⟨by rw [H1.out, H2.out]; rfl, HS.out.trans (hb26.mono HS.out.size)⟩
  · have hok : okB g = false := by cases h : okB g with | false => rfl | true => exact absurd ((okB_iff g).1 h) hc
    rw [hok] at hck
    have HCK := Lib.hid hck
    have hno : ¬ (ChkP g ∧ parse (writeT g) = .ok g) := fun x => hc ((chk_iff g).1 x.1)
    have H1 := Lib.hid (show printS g = [] from if_neg hno)
    have H2 := Lib.hid (show printE g = 1 from if_neg hno)
    clear hno hck hok hc
    go_enter Try.func14, Try.ntmps14
    go_wp2_with (go_at_call 15; refine HCK.out.mono ?_; rintro e w2 ⟨rfl, hb2⟩)
    go_ret2
    exact ⟨by rw [H1.out, H2.out]; rfl, HS.out.trans (hb2.mono HS.out.size)⟩

end Go.Proofs.Ytjlohjkhnjemaaa
