/- ScanParts: the walk. -/
import Derived.Test.YtjllidbggcenkaaTells
import Derived.Test.YtjllidbggcenkaaCat
import Derived.StillTailTactics
namespace Go.Proofs.Ytjllidbggcenkaa
open Go.RowKit
open Doc

theorem IsRow.below {w w' : World} {a : Option Addr} {len cap : Nat} {zs : List Int} (h : IsRow .i64 w a len cap zs) (hb : Below w.heap.size w w') : IsRow .i64 w' a len cap zs := by
  rcases h with h | ⟨x, h1, h2, h3, h4, hc, h6⟩
  · exact .inl h
  · refine .inr ⟨x, h1, h2, h3, h4, fun i hi => ?_, h6⟩
    have hci := hc i hi
    exact (hb.cell (World.block_lt_of_cell? w _ hci)).trans hci

theorem txt_some (B : List UInt8) (line : Nat) (h : (txt (B ++ [10]) line).2 = (0, 0)) : 0 < (txt (B ++ [10]) line).1.length := by
  obtain ⟨a, B', hB, ha⟩ := end_line B
  rw [hB, txt_line1 a B' ha] at h ⊢
  by_cases h0 : (lin a line 1).2 = 0
  · rw [if_pos h0]; simp; omega
  · rw [if_neg h0] at h; simp at h; omega

theorem lin_where : ∀ (n : Nat) (l : List UInt8) (line col : Nat), l.length ≤ n → ∀ x ∈ (lin l line col).1, x.line = line ∧ x.col ≤ col + l.length
  | _, [], _, _, _, x, hx => by simp [lin_nil] at hx
  | 0, c :: l, _, _, h, _, _ => by simp at h
  | n + 1, c :: l, line, col, h, x, hx => by
    rw [lin_cons] at hx
    by_cases h0 : (piece c l).1 = 0
    · simp [h0] at hx
    · have hp := piece_pos c l h0
      have hz := piece_size c l
      have hd : ((c :: l).drop (piece c l).2).length + (piece c l).2 = (c :: l).length := by rw [List.length_drop]; simp only [List.length_cons]; omega
      have ih := lin_where n ((c :: l).drop (piece c l).2) line (col + (piece c l).2) (by simp only [List.length_cons] at *; omega) x
      by_cases h9 : (piece c l).1 = 9
      · rw [if_neg h0, if_pos h9] at hx
        have := ih hx
        omega
      · rw [if_neg h0, if_neg h9] at hx
        rcases List.mem_cons.1 hx with rfl | hx
        · exact ⟨rfl, Nat.le_add_right _ _⟩
        · have := ih hx
          omega

theorem txt_where : ∀ (n : Nat) (t : List UInt8) (line : Nat), t.length ≤ n → ∀ x ∈ (txt t line).1, x.line ≤ line + t.length ∧ x.col ≤ t.length + 1
  | _, [], _, _, x, hx => by simp [txt_nil] at hx
  | 0, c :: l, _, h, _, _ => by simp at h
  | n + 1, c :: l, line, h, x, hx => by
    have hr := rest_lt c l
    have hll := line_len c l
    have ih := txt_where n (rest (c :: l)) (line + 1) (by omega) x
    have hlw := lin_where _ (head (c :: l)) line 1 (Nat.le_refl _) x
    simp only [List.length_cons] at *
    rw [txt_cons] at hx
    split at hx
    · rcases List.mem_append.1 hx with hx | hx
      · have := hlw hx; omega
      · rcases List.mem_cons.1 hx with rfl | hx
        · exact ⟨Nat.le_add_right _ _, by show (head (c :: l)).length + 1 ≤ _; omega⟩
        · have := ih hx; omega
    · simp at hx

theorem tok_full (t : ByteArray) (w : World) (l : List Tok) (hs : t.size ≤ 900000) (h : txt t.data.toList 1 = (l, 0, 0)) (hl : 0 < l.length) :
    Calls Try.prog 7 #[.string t] w fun e w' => ∃ g c, e = .returned (.tuple #[.slice (some ⟨g, 0, none⟩) l.length c, .int .i64 0, .int .i64 0, .int .i64 0]) ∧ Below w.heap.size w w' ∧ g < w'.heap.size ∧ Toks w' g l := by
  refine (tokens_ok t w l (by omega) h).mono fun e w' ⟨v, he, hb, hown⟩ => ?_
  obtain ⟨g, c, rfl, _, _, hg, hT⟩ := hown.toks hl
  exact ⟨g, c, he, hb, hg, hT⟩

theorem cnt_snoc (s : ByteArray) (k : Nat) (h : k < s.size) : cnt (s.data.toList.take (k + 1)) = cnt (s.data.toList.take k) + (if (s[k].toNat : Int) = 10 then 1 else 0) := by
  have e : s.data.toList.take (k + 1) = s.data.toList.take k ++ [s[k]] := by
    rw [List.take_succ_eq_append_getElem (by simpa using h)]; rfl
  rw [e, cnt_append]
  by_cases h10 : (s[k].toNat : Int) = 10
  · rw [if_pos h10, show s[k] = 10 from UInt8.toNat_inj.1 (by show _ = 10; omega)]; rfl
  · rw [if_neg h10]
    have : s[k] ≠ 10 := fun h' => h10 (by rw [h']; rfl)
    simp [cnt, this]

theorem cnt_le (l : List UInt8) : cnt l ≤ l.length := List.length_filter_le _ _

theorem pad16_ext : ∀ n < 17, (⟨#[32, 32, 32, 32, 32, 32, 32, 32, 32, 32, 32, 32, 32, 32, 32, 32]⟩ : ByteArray).extract 0 n = ⟨(List.replicate n 32).toArray⟩ := by
  intro n hn
  rw [Lib.extract_eq]
  have : (⟨#[32, 32, 32, 32, 32, 32, 32, 32, 32, 32, 32, 32, 32, 32, 32, 32]⟩ : ByteArray).data.toList = List.replicate 16 32 := rfl
  rw [this, List.drop_zero, Nat.sub_zero, List.take_replicate, Nat.min_eq_left (by omega)]

set_option maxRecDepth 100000 in
set_option maxHeartbeats 16000000 in
theorem parts_walk (a0 : Option Addr) (len0 cap0 : Nat) (z0 : List Int) (a1 : Option Addr) (len1 cap1 : Nat) (z1 : List Int) (pad : Int) (w : World) (w0 : IsRow .i64 w a0 len0 cap0 z0) (w1 : IsRow .i64 w a1 len1 cap1 z1) :
    Calls Try.prog 6 #[.slice a0 len0 cap0, .slice a1 len1 cap1, .int .i64 pad] w fun e w' => e = .returned (.bool true) ∧ Below w.heap.size w w' := by
  have hT0 := text_picks ⟨#[]⟩ a0 len0 cap0 z0 w w0
  have hT1 := fun W (hb : Below w.heap.size w W) => text_picks ⟨#[]⟩ a1 len1 cap1 z1 W (w1.below hb)
  have hcat : ∀ (t : ByteArray) (W : World), t.size ≤ 200 → (Op.stringOp .add t ⟨#[10]⟩).run Try.prog W = .ok (.string (t ++ ⟨#[10]⟩)) W := fun t W h => run_string_add_sum W _ _ (by show t.size + 1 ≤ _; omega)
  go_enter Try.func6, Try.ntmps6
  go_upto_region 2 with (first
    | (go_at_call 12; with_reducible refine hT0.mono ?_; rintro e wa ⟨ta, hta, rfl, hba⟩; have hcata := fun W => hcat ta W hta)
    | (go_at_call 12; refine (hT1 _ hba).mono ?_; rintro e wb ⟨tb, htb, rfl, hbb⟩; have hcatb := fun W => hcat tb W htb))
  have HBB : Hid (Below w.heap.size w wb) := Lib.hid (hba.trans (hbb.mono hba.size))
  obtain ⟨A, hA⟩ : ∃ A, A = ta.data.toList := ⟨_, rfl⟩
  obtain ⟨C, hC⟩ : ∃ C, C = tb.data.toList := ⟨_, rfl⟩
  have hsa : (ta ++ ⟨#[10]⟩ : ByteArray).data.toList = A ++ [10] := by rw [hA]; simp
  have hsb : (tb ++ ⟨#[10]⟩ : ByteArray).data.toList = C ++ [10] := by rw [hC]; simp
  have hza : (ta ++ ⟨#[10]⟩ : ByteArray).size = ta.size + 1 := by rw [ByteArray.size_append]; rfl
  have hzb : (tb ++ ⟨#[10]⟩ : ByteArray).size = tb.size + 1 := by rw [ByteArray.size_append]; rfl
  have hAl : A.length = ta.size := by rw [hA, ← Lib.size_eq]
  have hCl : C.length = tb.size := by rw [hC, ← Lib.size_eq]
  clear hA hC hT0 hT1 hcat hcata hcatb w0 w1 hba hbb
  generalize (ta ++ ⟨#[10]⟩ : ByteArray) = sa at *
  generalize (tb ++ ⟨#[10]⟩ : ByteArray) = sb at *
  have hsab : (sa ++ sb).data.toList = A ++ 10 :: (C ++ [10]) := by rw [show (sa ++ sb).data.toList = sa.data.toList ++ sb.data.toList by simp, hsa, hsb]; simp
  have hzab : (sa ++ sb).size = sa.size + sb.size := by rw [ByteArray.size_append]
  have hcatab : ∀ W, (Op.stringOp .add sa sb).run Try.prog W = .ok (.string (sa ++ sb)) W := fun W => run_string_add_sum W _ _ (by omega)
  obtain ⟨sab, hsabe⟩ : ∃ x, x = sa ++ sb := ⟨_, rfl⟩
  rw [← hsabe] at hsab hzab hcatab
  clear hsabe
  have ga := fun W => tok_good sa W (by omega)
  have pa := fun W => tok_poor sa W (by omega)
  have gb := fun W => tok_good sb W (by omega)
  have pb := fun W => tok_poor sb W (by omega)
  have gab := fun W => tok_good sab W (by omega)
  have pab := fun W => tok_poor sab W (by omega)
  rw [hsa] at ga pa
  rw [hsb] at gb pb
  rw [hsab] at gab pab
  have poor : (txt (A ++ [10]) 1).2 ≠ (0, 0) ∨ (txt (C ++ [10]) 1).2 ≠ (0, 0) → (∀ W, Calls Try.prog 7 #[.string sab] W fun e w' => ∃ a b : Nat, 0 < (a : Int) ∧ e = .returned (.tuple #[.slice none 0 0, .int .i64 a, .int .i64 b, .int .i64 2]) ∧ Below W.heap.size W w') := fun h W => by
    have h2 := two_poor A (C ++ [10]) h
    have h3 := (txt_line _ (A ++ 10 :: (C ++ [10])) 1 (Nat.le_refl _) (by decide)).resolve_left h2
    exact (pab W h2).mono fun e w' ⟨he, hb⟩ => ⟨_, _, by omega, he, hb⟩
  by_cases hga : (txt (A ++ [10]) 1).2 = (0, 0)
  · have ga' := fun W => ga W hga
    by_cases hgb : (txt (C ++ [10]) 1).2 = (0, 0)
    · have hab := two_good A (C ++ [10]) hga hgb
      have n1 := txt_some A 1 hga
      have n2 := txt_some C 1 hgb
      have hw1 := txt_where _ (A ++ [10]) 1 (Nat.le_refl _)
      have hw2 := txt_where _ (C ++ [10]) 1 (Nat.le_refl _)
      have hf1 := txt_few _ (A ++ [10]) 1 (Nat.le_refl _)
      have hf2 := txt_few _ (C ++ [10]) 1 (Nat.le_refl _)
      have hcn := cnt_le (A ++ [10])
      have hbl := fun j => blanks_ahead C j hgb
      have hrm := fun r hr => remark_ahead r (C ++ [10]) hr hgb
      have ga' := fun W => tok_full sa W (txt (A ++ [10]) 1).1 (by omega) (by rw [hsa]; exact Prod.ext rfl hga) n1
      have gb' := fun W => tok_full sb W (txt (C ++ [10]) 1).1 (by omega) (by rw [hsb]; exact Prod.ext rfl hgb) n2
      have gab' := fun W => tok_full sab W _ (by omega) (by rw [hsab]; exact hab) (by simp; omega)
      clear ga pa gb pb gab pab poor hga hgb hab
      generalize (txt (A ++ [10]) 1).1 = L1 at *
      generalize (txt (C ++ [10]) 1).1 = L2 at *
      simp only [List.length_append, List.length_cons, List.length_nil, List.length_map] at gab' hw1 hw2 hf1 hf2 hcn
      obtain ⟨n, hn⟩ : ∃ n, n = cnt (A ++ [10]) := ⟨_, rfl⟩
      rw [← hn] at gab' hcn
      have HBL := Lib.hid hbl
      have HRM := Lib.hid hrm
      have HW1 := Lib.hid hw1
      have HW2 := Lib.hid hw2
      clear hbl hrm hw1 hw2
      go_upto_region 7 with (first
        | (go_at_call 7; (with_reducible refine (ga' _).mono ?_); rintro e w2 ⟨g1, c1, rfl, hb2, hg1, hT1⟩)
        | (go_at_call 7; (with_reducible refine (gb' _).mono ?_); rintro e w3 ⟨g2, c2, rfl, hb3, hg2, hT2⟩))
      have k2 := HBB.out.trans (hb2.mono HBB.out.size)
      have K3 := Lib.hid (k2.trans (hb3.mono k2.size))
      have T1 := Lib.hid (hT1.below hg1 hb3)
      have T2 := Lib.hid hT2
      have hg1' : g1 < w3.heap.size := Nat.lt_of_lt_of_le hg1 hb3.size
      clear hT1 hT2 k2 hb2 HBB hg1 hb3 ga' gb'
      go_wp2
      have HSA := Lib.hid hsa
      have HSB := Lib.hid hsb
      clear hsa hsb hsab
      go_loop [21, 22] (fun c i => ∃ k q : Nat, k ≤ sa.size ∧ i = .int .i64 k ∧ c = .int .i64 q ∧ q ≤ k ∧ Hid (q = cnt (sa.data.toList.take k))) (fun _ i => sa.size - (intOf i).toNat)
      case atStart => exact ⟨0, 0, Nat.zero_le _, rfl, rfl, Nat.le_refl _, Lib.hid rfl⟩
      case round =>
        obtain ⟨k, q, hk, rfl, rfl, hq, HQ⟩ := hrel
        by_cases hlt : k < sa.size
        · have hsn := Lib.hid (cnt_snoc sa k hlt)
          by_cases h10 : (sa[k].toNat : Int) = 10
          · have HQ2 : Hid (q + 1 = cnt (sa.data.toList.take (k + 1))) := Lib.hid (by rw [hsn.out, if_pos h10, HQ.out])
            go_wp2
            go_round
            case rel => exact ⟨k + 1, q + 1, by omega, by go_num, by go_num, by omega, HQ2⟩
            case measure => simp [intOf]; omega
          · have HQ2 : Hid (q = cnt (sa.data.toList.take (k + 1))) := Lib.hid (by rw [hsn.out, if_neg h10, HQ.out]; rfl)
            go_wp2
            go_round
            case rel => exact ⟨k + 1, q, by omega, by go_num, rfl, by omega, HQ2⟩
            case measure => simp [intOf]; omega
        · have hcn2 : q = n := by
            rw [HQ.out, List.take_of_length_le (by rw [← Lib.size_eq]; omega), HSA.out, hn]
          subst hcn2
          have HNN := Lib.hid hn
          clear HQ hn
          go_upto_region 16 with (first
            | (go_at_call 7; (with_reducible refine (gab' _).mono ?_); rintro e w4 ⟨g3, c3, rfl, hb4, hg3, hT3⟩))
          have K4 := Lib.hid (K3.out.trans (hb4.mono K3.out.size))
          have U1 := Lib.hid (T1.out.below hg1' hb4)
          have U2 := Lib.hid (T2.out.below hg2 hb4)
          have U3 := Lib.hid hT3
          have hg1 : g1 < w4.heap.size := Nat.lt_of_lt_of_le hg1' hb4.size
          have hg2' : g2 < w4.heap.size := Nat.lt_of_lt_of_le hg2 hb4.size
          clear hT3 T1 T2 K3 hb4 hg1' hg2 gab' hcatab hk hq hlt
          have mixed : Try.prog.follows Departure.mixedOrders = true := by kernel_rfl
          go_wp2
          go_loopw [118] (fun i wr => ∃ k : Nat, i = .int .i64 k ∧ k ≤ L1.length + L2.length ∧ Below w4.heap.size w4 wr) (fun i _ => L1.length + L2.length - (intOf i).toNat)
          case atStart => exact ⟨0, rfl, Nat.zero_le _, Below.refl _ _⟩
          case round =>
            obtain ⟨k, rfl, hk, hbr⟩ := hrel
            by_cases hlt : k < L1.length + L2.length
            · have e1 : (k : Int) < (L1.length : Int) + L2.length := by omega
              have hgr3 : g3 < wr.heap.size := Nat.lt_of_lt_of_le hg3 hbr.size
              by_cases hk1 : k < L1.length
              · obtain ⟨x, hx⟩ : ∃ x, L1[k]? = some x := ⟨_, List.getElem?_eq_getElem hk1⟩
                obtain ⟨q1, q2, q3, q4⟩ := (U3.out.below hg3 hbr) k x (by rw [List.getElem?_append_left hk1]; exact hx)
                have hr := fun o => ((U1.out.below hg1 hbr).below (Nat.lt_of_lt_of_le hg1 hbr.size) ((Below.refl wr.heap.size wr).alloc (Nat.le_refl _) o)) k x hx
                have r1 := fun o => (hr o).1
                have r2 := fun o => (hr o).2.1
                have r3 := fun o => (hr o).2.2.1
                have r4 := fun o => (hr o).2.2.2
                have e2 : (k : Int) < L1.length := by omega
                clear hr
                go_wp2
                go_region
                go_wp2
                go_roundw
                case rel => exact ⟨k + 1, by go_num, by omega, below_draws' (hbr.alloc hbr.size _) 1⟩
                case measure => simp [intOf]; omega
              · obtain ⟨j, rfl⟩ : ∃ j, k = L1.length + j := ⟨k - L1.length, by omega⟩
                obtain ⟨y, hy⟩ : ∃ y, L2[j]? = some y := ⟨_, List.getElem?_eq_getElem (by omega)⟩
                have hyw := HW2.out y (List.mem_of_getElem? hy)
                have hyl : y.line ≤ 1000 := by omega
                have hql : q ≤ 1000 := by omega
                obtain ⟨q1, q2, q3, q4⟩ := (U3.out.below hg3 hbr) (L1.length + j) (down q y) (by rw [List.getElem?_append_right (by omega), List.getElem?_map, show L1.length + j - L1.length = j by omega, hy]; rfl)
                simp only [down, Int.natCast_add] at q1 q2 q3 q4
                have hr := fun o => ((U2.out.below hg2' hbr).below (Nat.lt_of_lt_of_le hg2' hbr.size) ((Below.refl wr.heap.size wr).alloc (Nat.le_refl _) o)) j y hy
                have r1 := fun o => (hr o).1
                have r2 := fun o => (hr o).2.1
                have r3 := fun o => (hr o).2.2.1
                have r4 := fun o => (hr o).2.2.2
                have e2 : ¬ (L1.length : Int) + j < L1.length := by omega
                have e3 : (j : Int) < L2.length := by omega
                have e4 : (L1.length : Int) + j < (L1.length : Int) + L2.length := by omega
                clear hr hyw e1
                go_wp2
                go_roundw
                case rel => exact ⟨L1.length + j + 1, by go_num, by omega, (hbr.alloc hbr.size _).alloc (by have := hbr.size; simp; omega) _⟩
                case measure => simp [intOf]; omega
            · obtain ⟨j, hj, hjp⟩ : ∃ j : Nat, j < 16 ∧ pad % 16 = j := ⟨(pad % 16).toNat, by omega, by omega⟩
              have hpad := pad16_ext j (by omega)
              obtain ⟨m, M, c, Cs, hL2, htc, hcl, hcc⟩ := HBL.out j
              have hno : ∀ c ∈ ([32, 195, 169, 32, 59, 32, 49, 97] ++ List.replicate j 32 : List UInt8), c ≠ 10 := by
                intro c hc
                rcases List.mem_append.1 hc with h | h
                · exact (by decide : ∀ c ∈ ([32, 195, 169, 32, 59, 32, 49, 97] : List UInt8), c ≠ 10) c h
                · rw [List.eq_of_mem_replicate h]; decide
              have htd := HRM.out _ hno
              have hm := HW2.out m (by rw [hL2]; exact List.mem_cons_self)
              have hml : m.line ≤ 1000 := by omega
              have hmc : m.col ≤ 1000 := by omega
              obtain ⟨Pb, hPb⟩ : ∃ Pb : ByteArray, Pb = ⟨(List.replicate j 32).toArray⟩ := ⟨_, rfl⟩
              rw [← hPb] at hpad
              have hPl : Pb.data.toList = List.replicate j 32 := by rw [hPb]
              have hPs : Pb.size = j := by rw [Lib.size_eq, hPl, List.length_replicate]
              clear hPb
              obtain ⟨sc, hsc⟩ : ∃ sc, sc = Pb ++ sb := ⟨_, rfl⟩
              have hcat3 : ∀ W, (Op.stringOp .add Pb sb).run Try.prog W = .ok (.string sc) W := fun W => by rw [hsc]; exact run_string_add_sum W _ _ (by omega)
              have hscl : sc.data.toList = List.replicate j 32 ++ (C ++ [10]) := by rw [hsc, show (Pb ++ sb).data.toList = Pb.data.toList ++ sb.data.toList by simp, hPl, HSB.out]
              have hscs : sc.size = j + sb.size := by rw [hsc, ByteArray.size_append, hPs]
              obtain ⟨s1, hs1⟩ : ∃ s1, s1 = (⟨#[35, 32, 195, 169, 32, 59, 32, 49, 97]⟩ : ByteArray) ++ Pb := ⟨_, rfl⟩
              have hs1s : s1.size = 9 + j := by rw [hs1, ByteArray.size_append, hPs]; rfl
              have hs1l : s1.data.toList = 35 :: ([32, 195, 169, 32, 59, 32, 49, 97] ++ List.replicate j 32) := by rw [hs1, ← hPl]; simp
              have hcat4 : ∀ W, (Op.stringOp .add ⟨#[35, 32, 195, 169, 32, 59, 32, 49, 97]⟩ Pb).run Try.prog W = .ok (.string s1) W := fun W => by rw [hs1]; exact run_string_add_sum W _ _ (by show 9 + Pb.size ≤ _; omega)
              obtain ⟨s2, hs2⟩ : ∃ s2, s2 = s1 ++ (⟨#[10]⟩ : ByteArray) := ⟨_, rfl⟩
              have hs2s : s2.size = 10 + j := by rw [hs2, ByteArray.size_append, hs1s]; show 9 + j + 1 = _; omega
              have hs2l : s2.data.toList = s1.data.toList ++ [10] := by rw [hs2]; simp
              have hcat5 : ∀ W, (Op.stringOp .add s1 ⟨#[10]⟩).run Try.prog W = .ok (.string s2) W := fun W => by rw [hs2]; exact run_string_add_sum W _ _ (by show s1.size + 1 ≤ _; omega)
              obtain ⟨sd, hsd⟩ : ∃ sd, sd = s2 ++ sb := ⟨_, rfl⟩
              have hsds : sd.size = 10 + j + sb.size := by rw [hsd, ByteArray.size_append, hs2s]
              have hcat6 : ∀ W, (Op.stringOp .add s2 sb).run Try.prog W = .ok (.string sd) W := fun W => by rw [hsd]; exact run_string_add_sum W _ _ (by omega)
              have hsdl : sd.data.toList = (35 :: ([32, 195, 169, 32, 59, 32, 49, 97] ++ List.replicate j 32)) ++ 10 :: (C ++ [10]) := by
                rw [hsd, show (s2 ++ sb).data.toList = s2.data.toList ++ sb.data.toList by simp, hs2l, hs1l, HSB.out]; simp
              have hL2l : L2.length = M.length + 1 := by rw [hL2]; rfl
              have gc := fun W => tok_full sc W (c :: Cs) (by omega) (by rw [hscl]; exact htc) (by simp)
              have gd := fun W => tok_full sd W _ (by omega) (by rw [hsdl]; exact htd) (by simp)
              rw [show (c :: Cs).length = L2.length by rw [hL2l, ← hcl]; rfl] at gc
              simp only [List.length_cons, List.length_map] at gd
              have V2 := Lib.hid (U2.out.below hg2' hbr)
              have hgr2 : g2 < wr.heap.size := Nat.lt_of_lt_of_le hg2' hbr.size
              have K5 := Lib.hid (K4.out.trans (hbr.mono K4.out.size))
              have hb0 : ((L2.length : Int) == 0) = false := by rw [beq_eq_false_iff_ne]; omega
              have e1 : ¬ (k : Int) < (L1.length : Int) + L2.length := by omega
              have HC := Lib.hid hcc
              have HM := Lib.hid hL2
              have j16 : (j : Int) ≤ 16 := by omega
              have hv1 : IntKind.i64.wrap ((L2.length : Int) + 1) = (L2.length : Int) + 1 := by rw [IntKind.wrap_i64]; omega
              have hv2 : IntKind.i64.wrap ((m.col : Int) + (j : Int)) = (m.col : Int) + j := by rw [IntKind.wrap_i64]; omega
              have hv3 : IntKind.i64.wrap ((m.line : Int) + 1) = (m.line : Int) + 1 := by rw [IntKind.wrap_i64]; omega
              have hv4 : (1 : Int) < (L2.length : Int) + 1 := by omega
              have hv5 : (0 : Int) < (L2.length : Int) := by omega
              clear hL2l hcc hL2 htc htd hcl hscl hsdl hs2l hs1l hsc hs1 hs2 hsd U1 U2 U3 hbr K4 HSA HSB HBL HRM hPl hm hno ga'
              go_wp2_with (first
                | (go_at_call 10; refine (within_any pad 16 (by decide) (by decide) _).mono ?_; rintro e wx ⟨rfl, rfl⟩; rw [hjp])
                | (go_at_call 7; (with_reducible refine (gc _).mono ?_); rintro e w5 ⟨g5, c5, rfl, hb5, hg5, hT5⟩)
                | (go_at_call 7; (with_reducible refine (gd _).mono ?_); rintro e w6 ⟨g6, c6, rfl, hb6, hg6, hT6⟩; have hm6 := (((V2.out.below hgr2 hb5).below (Nat.lt_of_lt_of_le hgr2 hb5.size) hb6) 0 m (by rw [HM.out]; rfl)).2.2; have hc6 := ((hT5.below hg5 hb6) 0 c rfl).2.2.2; have hd6 := (hT6 1 (down 1 m) (by rw [HM.out]; rfl)).2.2; obtain ⟨m1, m2⟩ := hm6; obtain ⟨d1, d2⟩ := hd6; rw [HC.out] at hc6; simp only [down, Int.natCast_add, Int.natCast_one, Nat.zero_mul, Nat.one_mul, Nat.zero_add, Nat.reduceAdd] at m1 m2 hc6 d1 d2; clear hT5 hT6)
                | (go_at_call 9; refine (wakes_any _).mono ?_; rintro e w7 ⟨rfl, hb7⟩))
              refine wp_region_still_tail 64 (by kernel_rfl) (by kernel_rfl) ?_
              simp only [List.append_eq, List.cons_append, List.nil_append, List.take_succ_cons, List.take_zero, List.drop_succ_cons, List.drop_zero]
              repeat still_step
              refine wpStill_nil ?_
              have hd6 : Below w6.heap.size w6 w6.drew := below_draws' (Below.refl _ _) 1
              change wpList _ _ _ _ _ w6.drew
              clear m1 m2 hc6 d1 d2 V2
              generalize w6.drew = wd at *
              have k5 := K5.out.trans (hb5.mono K5.out.size)
              have k6 := k5.trans (hb6.mono k5.size)
              have k7 := Lib.hid (k6.trans (hd6.mono k6.size))
              clear hd6 hb6 k6 hb5 k5 K5
              go_wp2_with (go_at_call 9; refine (wakes_any _).mono ?_; rintro e w7 ⟨rfl, hb7⟩)
              go_ret
              exact ⟨rfl, k7.out.trans (hb7.mono k7.out.size)⟩
    · have pb' := fun W => pb W hgb
      have pab' := poor (.inr hgb)
      generalize (txt (C ++ [10]) 1).2.1 = x1 at pb'
      generalize (txt (C ++ [10]) 1).2.2 = x2 at pb'
      generalize (txt (A ++ [10]) 1).1 = L1 at ga'
      clear ga pa gb pb gab pab poor
      go_wp2_with (first
        | (go_at_call 7; (with_reducible refine (ga' _).mono ?_); rintro e w2 ⟨a2, c2, rfl, hb2, _⟩)
        | (go_at_call 7; (with_reducible refine (pb' _).mono ?_); rintro e w3 ⟨rfl, hb3⟩)
        | (go_at_call 7; (with_reducible refine (pab' _).mono ?_); rintro e w4 ⟨y1, y2, hy, rfl, hb4⟩)
        | (go_at_call 9; refine (wakes_any _).mono ?_; rintro e w5 ⟨rfl, hb5⟩))
      go_ret
      have k2 := HBB.out.trans (hb2.mono HBB.out.size)
      have k3 := k2.trans (hb3.mono k2.size)
      have k4 := k3.trans (hb4.mono k3.size)
      exact ⟨rfl, k4.trans (hb5.mono k4.size)⟩
  · have pa' := fun W => pa W hga
    have pab' := poor (.inl hga)
    generalize (txt (A ++ [10]) 1).2.1 = x1 at pa'
    generalize (txt (A ++ [10]) 1).2.2 = x2 at pa'
    by_cases hgb : (txt (C ++ [10]) 1).2 = (0, 0)
    · have gb' := fun W => gb W hgb
      generalize (txt (C ++ [10]) 1).1 = L2 at gb'
      clear ga pa gb pb gab pab poor
      go_wp2_with (first
        | (go_at_call 7; (with_reducible refine (pa' _).mono ?_); rintro e w2 ⟨rfl, hb2⟩)
        | (go_at_call 7; (with_reducible refine (gb' _).mono ?_); rintro e w3 ⟨a3, c3, rfl, hb3, _⟩)
        | (go_at_call 7; (with_reducible refine (pab' _).mono ?_); rintro e w4 ⟨y1, y2, hy, rfl, hb4⟩)
        | (go_at_call 9; refine (wakes_any _).mono ?_; rintro e w5 ⟨rfl, hb5⟩))
      go_ret
      have k2 := HBB.out.trans (hb2.mono HBB.out.size)
      have k3 := k2.trans (hb3.mono k2.size)
      have k4 := k3.trans (hb4.mono k3.size)
      exact ⟨rfl, k4.trans (hb5.mono k4.size)⟩
    · have pb' := fun W => pb W hgb
      generalize (txt (C ++ [10]) 1).2.1 = z1 at pb'
      generalize (txt (C ++ [10]) 1).2.2 = z2 at pb'
      clear ga pa gb pb gab pab poor
      go_wp2_with (first
        | (go_at_call 7; (with_reducible refine (pa' _).mono ?_); rintro e w2 ⟨rfl, hb2⟩)
        | (go_at_call 7; (with_reducible refine (pb' _).mono ?_); rintro e w3 ⟨rfl, hb3⟩)
        | (go_at_call 7; (with_reducible refine (pab' _).mono ?_); rintro e w4 ⟨y1, y2, hy, rfl, hb4⟩)
        | (go_at_call 9; refine (wakes_any _).mono ?_; rintro e w5 ⟨rfl, hb5⟩))
      go_ret
      have k2 := HBB.out.trans (hb2.mono HBB.out.size)
      have k3 := k2.trans (hb3.mono k2.size)
      have k4 := k3.trans (hb4.mono k3.size)
      exact ⟨rfl, k4.trans (hb5.mono k4.size)⟩

end Go.Proofs.Ytjllidbggcenkaa
