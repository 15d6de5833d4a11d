/- GramLimits: the walk. -/
import Derived.Test.YtdnlbmdmaiacaaaLims
import Derived.Test.YtdnlbmdmaiacaaaWake
import Derived.Deep.CutRange
namespace Go.Proofs.Ytdnlbmdmaiacaaa
open Go.RowKit
open Doc

def oneB (k : Nat) : ByteArray := ⟨#[UInt8.ofNat (65 + k)]⟩
theorem conv_one (W : World) (k : Nat) (hk : k < 8) :
    (convert 22 9 (.slice (some ⟨W.heap.size, 0, none⟩) 1 1)).run Try.prog (W.alloc (.cells #[.int .u8 (65 + (k : Int))] 5)) = .ok (.string (oneB k)) (W.alloc (.cells #[.int .u8 (65 + (k : Int))] 5)) := by
  refine run_convert_bytes_back (P := Try.prog) _ _ _ 5 ⟨W.heap.size, 0, none⟩ 1 [UInt8.ofNat (65 + k)] (by kernel_rfl) (by kernel_rfl) (by kernel_rfl) fun j hj => ?_
  have hj0 : j = 0 := by simpa using hj
  subst hj0
  have h := (blk_cell (i := 0) (heap_alloc_new W (.cells #[.int .u8 (65 + (k : Int))] 5)) rfl).1
  refine h.trans ?_
  have : (UInt8.ofNat (65 + k)).toNat = 65 + k := by rw [UInt8.toNat_ofNat']; omega
  simp
  omega
theorem cat_k (a b : List UInt8) (w : World) (h : a.length + b.length ≤ 1000000) : (Op.stringOp .add ⟨a.toArray⟩ ⟨b.toArray⟩).run Try.prog w = .ok (.string ⟨(a ++ b).toArray⟩) w := by
  rw [run_string_add_sum w _ _ (by show a.length + b.length ≤ _; omega)]
  have e : (⟨a.toArray⟩ : ByteArray) ++ ⟨b.toArray⟩ = ⟨(a ++ b).toArray⟩ := ByteArray.ext (by simp)
  rw [e]

theorem wrap64_w (n : Int) (h : -9223372036854775808 ≤ n ∧ n ≤ 9223372036854775807) : wrap64 n = n := by unfold wrap64; omega
def abB (x : Nat) : UInt8 := if x = 0 then 97 else if x = 1 then 98 else 99
theorem abc_abB (x : Nat) : abc x = [abB x] := by unfold abc abB; split; rfl; split <;> rfl
theorem abc_cell (W : World) (x : Nat) (hx : x < 3) : (W.alloc (.cells #[.string ⟨#[97]⟩, .string ⟨#[98]⟩, .string ⟨#[99]⟩] 9)).cell? ⟨W.heap.size, x, none⟩ = some (.string ⟨#[abB x]⟩) :=
  (blk_cell (heap_alloc_new W _) (by
    match x, hx with
    | 0, _ => rfl
    | 1, _ => rfl
    | 2, _ => rfl)).1
theorem abc_at (x : Nat) (hx : x < 3) : ∀ h, ([.string ⟨#[97]⟩, .string ⟨#[98]⟩, .string ⟨#[99]⟩] : List Value)[x]'h = .string ⟨#[abB x]⟩ := fun _ => by
  match x, hx with
  | 0, _ => rfl
  | 1, _ => rfl
  | 2, _ => rfl
theorem part_cat (k : Nat) (h1 : 0 < k) (hk : k ≤ 24) (a b c : UInt8) (ha : abc (k % 3) = [a]) (hb : abc (k / 3 % 3) = [b]) (hc : abc (k / 9 % 3) = [c]) (W : World) :
    (Op.stringOp .add ⟨(partsT k).toArray⟩ (((((⟨#[32, 124, 32]⟩ ++ ⟨#[a]⟩) ++ ⟨#[32]⟩) ++ ⟨#[b]⟩) ++ ⟨#[32]⟩) ++ ⟨#[c]⟩ : ByteArray)).run Try.prog W = .ok (.string ⟨(partsT (k + 1)).toArray⟩) W := by
  have e : (((((⟨#[32, 124, 32]⟩ ++ ⟨#[a]⟩) ++ ⟨#[32]⟩) ++ ⟨#[b]⟩) ++ ⟨#[32]⟩) ++ ⟨#[c]⟩ : ByteArray) = ⟨(onePart k).toArray⟩ := by
    exact ByteArray.ext (by simp [onePart, ha, hb, hc])
  have hl : ∀ x, (abc x).length = 1 := fun x => by unfold abc; split; rfl; split <;> rfl
  rw [e, cat_k _ _ _ (by have := parts_len k hk; simp [onePart, hl]; omega), partsT_step k h1]

theorem idx3 (k : Nat) (h1 : 1 ≤ k) (hk : k < 24) : ∃ x0 x1 x2 y1 y2 : Nat, (k : Int).tmod 3 = x0 ∧ (k : Int).tdiv 3 = y1 ∧ (k : Int).tdiv 9 = y2 ∧ (y1 : Int).tmod 3 = x1 ∧ (y2 : Int).tmod 3 = x2 ∧ wrap64 (y1 : Int) = y1 ∧ wrap64 (y2 : Int) = y2 ∧
    (∀ h, ([.string ⟨#[97]⟩, .string ⟨#[98]⟩, .string ⟨#[99]⟩] : List Value)[x0]'h = .string ⟨#[abB x0]⟩) ∧ (∀ h, ([.string ⟨#[97]⟩, .string ⟨#[98]⟩, .string ⟨#[99]⟩] : List Value)[x1]'h = .string ⟨#[abB x1]⟩) ∧ (∀ h, ([.string ⟨#[97]⟩, .string ⟨#[98]⟩, .string ⟨#[99]⟩] : List Value)[x2]'h = .string ⟨#[abB x2]⟩) ∧
    (x0 : Int) < 3 ∧ (x1 : Int) < 3 ∧ (x2 : Int) < 3 ∧ x0 < 3 ∧ x1 < 3 ∧ x2 < 3 ∧
    ∀ W : World, (Op.stringOp .add ⟨(partsT k).toArray⟩ (((((⟨#[32, 124, 32]⟩ ++ ⟨#[abB x0]⟩) ++ ⟨#[32]⟩) ++ ⟨#[abB x1]⟩) ++ ⟨#[32]⟩) ++ ⟨#[abB x2]⟩ : ByteArray)).run Try.prog W = .ok (.string ⟨(partsT (k + 1)).toArray⟩) W := by
  refine ⟨k % 3, k / 3 % 3, k / 9 % 3, k / 3, k / 9, ?_, ?_, ?_, ?_, ?_, wrap64_w _ (by omega), wrap64_w _ (by omega), abc_at _ (by omega), abc_at _ (by omega), abc_at _ (by omega), by omega, by omega, by omega, by omega, by omega, by omega, part_cat k h1 (by omega) _ _ _ (abc_abB _) (abc_abB _) (abc_abB _)⟩
  · rw [Int.tmod_eq_emod_of_nonneg (by omega)]; omega
  · rw [Int.tdiv_eq_ediv_of_nonneg (by omega)]; omega
  · rw [Int.tdiv_eq_ediv_of_nonneg (by omega)]; omega
  · rw [Int.tmod_eq_emod_of_nonneg (by omega)]; omega
  · rw [Int.tmod_eq_emod_of_nonneg (by omega)]; omega
theorem idx_next (k : Nat) (hk : k < 24) : 1 ≤ k + 1 ∧ k + 1 ≤ 24 ∧ Value.int .i64 ((k : Int) + 1) = Value.int .i64 ((k + 1 : Nat) : Int) ∧ 24 - (intOf (Value.int .i64 ((k : Int) + 1))).toNat < 24 - (intOf (Value.int .i64 (k : Int))).toNat := by
  refine ⟨by omega, by omega, by push_cast; rfl, by simp only [intOf]; omega⟩

set_option maxRecDepth 100000 in
set_option maxHeartbeats 8000000 in
theorem limits_walk (which : Int) (w : World) : Calls Try.prog 3 #[.int .i64 which] w fun e w' => e = .returned (.bool true) ∧ Below w.heap.size w w' := by
  obtain ⟨m, hm, hmp⟩ : ∃ m : Nat, m < 3 ∧ which % 3 = m := ⟨(which % 3).toNat, by omega, by omega⟩
  have HMP := Lib.hid hmp
  clear hmp
  go_enter Try.func3, Try.ntmps3
  go_wp2
  go_loopw [6, 3] (fun i s wr => ∃ k : Nat, k ≤ 8 ∧ i = .int .i64 k ∧ s = .string ⟨(rulesT k).toArray⟩ ∧ Below w.heap.size w wr) (fun i _ _ => 8 - (intOf i).toNat)
  case atStart => exact ⟨0, by omega, rfl, rfl, Below.refl _ _⟩
  case round =>
    obtain ⟨k, hk, rfl, rfl, hbe⟩ := hrel
    by_cases hlt : k < 8
    · have e1 : (k : Int) < 8 := by omega
      have hcv := fun W => conv_one W k hlt
      have hc1 : ∀ W, (Op.stringOp .add (oneB k) ⟨#[58, 32, 97, 10]⟩).run Try.prog W = .ok (.string ⟨(oneRule k).toArray⟩) W := fun W => cat_k [_] [58, 32, 97, 10] W (by simp)
      have hc2 : ∀ W, (Op.stringOp .add ⟨(rulesT k).toArray⟩ ⟨(oneRule k).toArray⟩).run Try.prog W = .ok (.string ⟨(rulesT (k + 1)).toArray⟩) W := fun W => cat_k _ _ W (by have := rules_len k hk; simp [oneRule]; omega)
      have HBE := Lib.hid fun o => hbe.alloc hbe.size o
      clear hbe
      go_wp2
      go_roundw
      case rel => exact ⟨k + 1, by omega, by go_num, rfl, HBE.out _⟩
      case measure => simp [intOf]; omega
    · have hk8 : k = 8 := by omega
      have n8 : ¬ (k : Int) < 8 := by omega
      have HBE := Lib.hid hbe
      have HRK := Lib.hid (show rulesT 8 = rulesT k by rw [hk8])
      clear hbe hk8 hlt hk
      generalize rulesT k = R at *
      have hR := HRK.out
      have HR0 := Lib.hid hR
      clear hR HRK
      go_wp2
      clear n8
      rename World => w1
      rename Nat => k8
      go_loopw [7, 4] (fun i s wr => ∃ k : Nat, k ≤ 6 ∧ i = .int .i64 k ∧ s = .string ⟨(rowT k).toArray⟩ ∧ Below w.heap.size w wr) (fun i _ _ => 6 - (intOf i).toNat)
      case atStart => exact ⟨0, by omega, rfl, rfl, HBE.out⟩
      case round =>
        obtain ⟨k, hk, rfl, rfl, hbe⟩ := hrel
        by_cases hlt : k < 6
        · have e1 : (k : Int) < 6 := by omega
          have hc1 : ∀ W, (Op.stringOp .add ⟨(rowT k).toArray⟩ ⟨#[32, 97]⟩).run Try.prog W = .ok (.string ⟨(rowT (k + 1)).toArray⟩) W := fun W => cat_k _ [32, 97] W (by have := row_len k hk; simp; omega)
          have HBE := Lib.hid hbe
          clear hbe
          go_wp2
          go_roundw
          case rel => exact ⟨k + 1, by omega, by go_num, rfl, HBE.out⟩
          case measure => simp [intOf]; omega
        · have hk6 : k = 6 := by omega
          have n6 : ¬ (k : Int) < 6 := by omega
          have HB2 := Lib.hid hbe
          have HRK := Lib.hid (show rowT 6 = rowT k by rw [hk6])
          clear hbe hk6 hlt hk
          generalize rowT k = R6 at *
          have HR6 := Lib.hid HRK.out
          clear HRK
          go_wp2
          clear n6
          rename World => w3
          rename Nat => k6
          go_loopw [8, 5] (fun i s wr => ∃ k : Nat, 1 ≤ k ∧ k ≤ 24 ∧ i = .int .i64 k ∧ s = .string ⟨(partsT k).toArray⟩ ∧ Below w.heap.size w wr) (fun i _ _ => 24 - (intOf i).toNat)
          case atStart => exact ⟨1, by omega, by omega, rfl, rfl, HB2.out⟩
          case round =>
            obtain ⟨k, hk1, hk, rfl, rfl, hbe⟩ := hrel
            by_cases hlt : k < 24
            · as_aux_lemma =>
              obtain ⟨x0, x1, x2, y1, y2, t0, q1, q2, t1, t2, s1, s2, g0, g1, g2, l0, l1, l2, hx0, hx1, hx2, hc1⟩ := idx3 k hk1 hlt
              have e1 : (k : Int) < 24 := by exact_mod_cast hlt
              generalize abB x0 = b0 at *
              generalize abB x1 = b1 at *
              generalize abB x2 = b2 at *
              have HB3 := Lib.hid fun o o' o'' => ((hbe.alloc hbe.size o).alloc (hbe.alloc hbe.size o).size o').alloc ((hbe.alloc hbe.size o).alloc (hbe.alloc hbe.size o).size o').size o''
              have HK1 := Lib.hid (And.intro hk1 hk)
              have HKN := Lib.hid (idx_next k hlt)
              clear hbe hk1 hk hlt
              go_wp2
              go_region
              all_goals (go_wp2; go_roundw; case rel => exact ⟨k + 1, HKN.out.1, HKN.out.2.1, HKN.out.2.2.1, rfl, below_drews (HB3.out _ _ _) 1⟩)
              all_goals exact HKN.out.2.2.2
            · have hk24 : k = 24 := by omega
              have n24 : ¬ (k : Int) < 24 := by omega
              have HB3 := Lib.hid hbe
              have HRK := Lib.hid (show partsT 24 = partsT k by rw [hk24])
              clear hbe hk24 hlt hk hk1
              generalize partsT k = P24 at *
              have hP24 := HRK.out
              have HP24 := Lib.hid hP24
              clear HRK hP24
              go_wp2
              clear n24
              rename World => w5
              have hR' := HR0.out
              have hR6' := HR6.out
              have hP24 := HP24.out
              rename Nat => k24
              have hLs : ∀ k, k < 3 → ∃ s : List UInt8, LimOk s ∧ s.length ≤ 1000000 ∧ (#[Value.string ⟨R.toArray⟩, .string ⟨R6.toArray⟩, .string ⟨P24.toArray⟩] : Array Value)[k]? = some (.string ⟨s.toArray⟩) := fun k hk => by
                match k, hk with
                | 0, _ => exact ⟨R, hR' ▸ rules_ok, by have := rules_len 8 (Nat.le_refl _); rw [hR'] at this; omega, rfl⟩
                | 1, _ => exact ⟨R6, hR6' ▸ row_ok, by have := row_len 6 (Nat.le_refl _); rw [hR6'] at this; omega, rfl⟩
                | 2, _ => exact ⟨P24, hP24 ▸ parts_ok, by have := parts_len 24 (Nat.le_refl _); rw [hP24] at this; omega, rfl⟩
              have HLS := Lib.hid hLs
              have HRR := Lib.hid hR'
              have HRR6 := Lib.hid hR6'
              clear hLs hR' hR6' hP24
              have hblk := heap_alloc_new w5 (.cells #[.string ⟨R.toArray⟩, .string ⟨R6.toArray⟩, .string ⟨P24.toArray⟩] 9)
              have hbw : Below w.heap.size w (w5.alloc (.cells #[.string ⟨R.toArray⟩, .string ⟨R6.toArray⟩, .string ⟨P24.toArray⟩] 9)) := HB3.out.alloc HB3.out.size _
              have HBLK := Lib.hid hblk
              have HBW := Lib.hid hbw
              clear hblk hbw
              generalize w5.alloc (.cells #[.string ⟨R.toArray⟩, .string ⟨R6.toArray⟩, .string ⟨P24.toArray⟩] 9) = S at *
              generalize w5.heap.size = BS at *
              go_loopw [71] (fun i wr => ∃ k : Nat, k ≤ 3 ∧ i = .int .i64 k ∧ Below S.heap.size S wr) (fun i _ => 3 - (intOf i).toNat)
              case atStart => exact ⟨0, by omega, rfl, Below.refl _ _⟩
              case round =>
                obtain ⟨k, hk, rfl, hbe⟩ := hrel
                by_cases hlt : k < 3
                · obtain ⟨s, hs, hsl, hcell⟩ := HLS.out k hlt
                  obtain ⟨g, hg1, hg2, hf, hsm, htn, hnn⟩ := hs
                  have e1 : (k : Int) < 3 := by omega
                  have hb1 := (hbe.block _ (heap_lt HBLK.out)).trans HBLK.out
                  have c0 := (blk_cell hb1 hcell).1
                  have l0 := heap_lt hb1
                  have HP := Lib.hid (parse_ok ⟨s.toArray⟩ g wr hsl hg1)
                  have HC := Lib.hid fun v W h => chk_any v g W h hf hsm htn hnn
                  have HG2 := Lib.hid hg2
                  have HBE := Lib.hid hbe
                  clear hg1 hg2 hf hsm htn hnn hb1 hcell hbe
                  go_wp2_with (first
                    | (go_at_call 13; refine HP.out.mono ?_; rintro e w2 ⟨v, rfl, hb2, hgf⟩
                       obtain ⟨a1, a2, a3, c1, c2, c3, ls, rfl, hrest⟩ := hgf.at_
                       clear hrest
                       have HGF := Lib.hid hgf
                       clear hgf)
                    | (go_at_call 14; refine (HC.out _ _ (HGF.out.at_.below ((Below.refl _ _).alloc (Nat.le_refl _) _))).mono ?_; rintro e w3 ⟨rfl, hb3⟩; rw [HG2.out]))
                  go_roundw
                  case rel => exact ⟨k + 1, by omega, by go_num, HBE.out.trans ((hb2.trans (((Below.refl _ _).alloc (Nat.le_refl _) _).trans (hb3.mono (by simp)) |>.mono hb2.size)).mono HBE.out.size)⟩
                  case measure => simp [intOf]; omega
                · have hk3 : k = 3 := by omega
                  subst hk3
                  have HBE := Lib.hid hbe
                  clear hbe
                  obtain ⟨s, hs, hsl, hcell⟩ : ∃ s : List UInt8, LimBad s ∧ s.length ≤ 1000000 ∧ (#[Value.string ⟨(R ++ [90, 58, 32, 97, 10]).toArray⟩, .string ⟨(R6 ++ [32, 97]).toArray⟩, .string ⟨(P24 ++ [32, 124, 32, 99, 32, 99, 32, 99, 32, 97]).toArray⟩] : Array Value)[m]? = some (.string ⟨s.toArray⟩) := by
                    have l8 := rules_len 8 (Nat.le_refl _)
                    have l6 := row_len 6 (Nat.le_refl _)
                    have l24 := parts_len 24 (Nat.le_refl _)
                    rw [HRR.out] at l8
                    rw [HRR6.out] at l6
                    rw [HP24.out] at l24
                    match m, hm with
                    | 0, _ => exact ⟨_, HRR.out ▸ rules_bad, by rw [List.length_append]; simp only [List.length_cons, List.length_nil]; omega, rfl⟩
                    | 1, _ => exact ⟨_, HRR6.out ▸ row_bad, by rw [List.length_append]; simp only [List.length_cons, List.length_nil]; omega, rfl⟩
                    | 2, _ => exact ⟨_, HP24.out ▸ parts_bad, by rw [List.length_append]; simp only [List.length_cons, List.length_nil]; omega, rfl⟩
                  obtain ⟨l, c, hbad, hl0⟩ := hs
                  have hrl : R.length ≤ 1000 := by have := rules_len 8 (Nat.le_refl _); rw [HRR.out] at this; exact this
                  have hr6l : R6.length ≤ 1000 := by have := row_len 6 (Nat.le_refl _); rw [HRR6.out] at this; exact this
                  have hp24l : P24.length ≤ 1000 := by have := parts_len 24 (Nat.le_refl _); rw [HP24.out] at this; exact this
                  have hc1 : ∀ W, (Op.stringOp .add ⟨R.toArray⟩ ⟨#[90, 58, 32, 97, 10]⟩).run Try.prog W = .ok (.string ⟨(R ++ [90, 58, 32, 97, 10]).toArray⟩) W := fun W => cat_k _ [90, 58, 32, 97, 10] W (by simp; omega)
                  have hc2 : ∀ W, (Op.stringOp .add ⟨R6.toArray⟩ ⟨#[32, 97]⟩).run Try.prog W = .ok (.string ⟨(R6 ++ [32, 97]).toArray⟩) W := fun W => cat_k _ [32, 97] W (by simp; omega)
                  have hc3 : ∀ W, (Op.stringOp .add ⟨P24.toArray⟩ ⟨#[32, 124, 32, 99, 32, 99, 32, 99, 32, 97]⟩).run Try.prog W = .ok (.string ⟨(P24 ++ [32, 124, 32, 99, 32, 99, 32, 99, 32, 97]).toArray⟩) W := fun W => cat_k _ [32, 124, 32, 99, 32, 99, 32, 99, 32, 97] W (by simp; omega)
                  have HPN := Lib.hid fun W => parse_no ⟨s.toArray⟩ l c 5 W hsl hbad
                  have HWI := Lib.hid fun W => within_any which 3 (by omega) (by omega) W
                  have hbl := (blk_cell (heap_alloc_new wr (.cells #[Value.string ⟨(R ++ [90, 58, 32, 97, 10]).toArray⟩, .string ⟨(R6 ++ [32, 97]).toArray⟩, .string ⟨(P24 ++ [32, 124, 32, 99, 32, 99, 32, 99, 32, 97]).toArray⟩] 9)) hcell).1
                  have m3 : (m : Int) < 3 := by omega
                  have m0 : (0 : Int) ≤ m := by omega
                  have l0i : (0 : Int) < l := by omega
                  clear hbad hsl hrl hr6l hp24l
                  go_wp2_with (first
                    | (go_at_call 15; refine (HWI.out _).mono ?_; rintro e w2 ⟨rfl, rfl⟩; rw [HMP.out])
                    | (go_at_call 13; refine (HPN.out _).mono ?_; rintro e w2 ⟨rfl, hb2⟩)
                    | (go_at_call 16; refine (wakes_any _).mono ?_; rintro e w3 ⟨rfl, hb3⟩))
                  go_ret
                  have q1 := (HBW.out.trans (HBE.out.mono HBW.out.size)).alloc (Nat.le_trans HBW.out.size HBE.out.size) (.cells #[Value.string ⟨(R ++ [90, 58, 32, 97, 10]).toArray⟩, .string ⟨(R6 ++ [32, 97]).toArray⟩, .string ⟨(P24 ++ [32, 124, 32, 99, 32, 99, 32, 99, 32, 97]).toArray⟩] 9)
                  have q2 := q1.trans (hb2.mono q1.size)
                  have q3 := q2.alloc q2.size (.cells #[.slice none 0 0, .slice none 0 0, .slice none 0 0] 26)
                  exact ⟨rfl, q3.trans (hb3.mono q3.size)⟩

end Go.Proofs.Ytdnlbmdmaiacaaa
