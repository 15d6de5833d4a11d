/- The document's own answers, walked: Name and Tokens. -/
import Derived.Test.YtejjdfmobiegdaaDoorCut
import Derived.Deep.Cut
import Derived.Deep.CutRange
import Derived.Laws.Concat
namespace Go.Proofs.YtejjdfmobiegdaaDoor
open Go.RowKit
open Doc

set_option maxHeartbeats 1000000 in
theorem rname_any (s : ByteArray) (w : World) (hs : s.size ≤ maxLen) :
    Calls Tryd.prog 48 #[.string s] w fun e w' => e = .returned (.bool (nameOk s.data.toList)) ∧ w' = w := by
  unfold maxLen at hs
  rcases hl : s.data.toList with _ | ⟨c, l⟩
  · have h0 : s.size = 0 := by rw [Lib.size_eq, hl]; rfl
    go_enter Tryd.func48, Tryd.ntmps48
    go_wp2
    go_ret
    exact ⟨rfl, rfl⟩
  · have hsz := size_cons hl
    have hp : 0 < s.size := by omega
    have h0 := at_cons hl hp
    by_cases h8 : 8 < (s.size : Int)
    · have hr : nameOk (c :: l) = false := by simp [nameOk]; omega
      rw [hr]
      go_enter Tryd.func48, Tryd.ntmps48
      go_wp2
      go_ret
      exact ⟨rfl, rfl⟩
    · cases hL : lett c with
      | false =>
        have hr : nameOk (c :: l) = false := by simp [nameOk, hL]
        rw [hr]
        go_enter Tryd.func48, Tryd.ntmps48
        go_wp2_with (first | (go_at_call 84; refine (rletter_any c _).mono ?_; rintro e w' ⟨rfl, rfl⟩; simp only [hL]))
        go_ret
        exact ⟨rfl, rfl⟩
      | true =>
        have hres : nameOk (c :: l) = decide (rowLen s.data.toList = s.size) := by rw [hl, hsz]; simp [nameOk, hL]; omega
        have HRES := Lib.hid hres
        clear hres
        go_enter Tryd.func48, Tryd.ntmps48
        go_wp2_with (first | (go_at_call 84; refine (rletter_any c _).mono ?_; rintro e w' ⟨rfl, rfl⟩; simp only [hL]))
        clear h0
        go_loop [3] (fun n => ∃ k : Nat, k ≤ s.size ∧ n = .int .i64 k ∧ rowLen s.data.toList = k + rowLen (s.data.toList.drop k)) (fun n => s.size - (intOf n).toNat)
        case atStart => exact ⟨0, Nat.zero_le _, rfl, by simp⟩
        case round =>
          obtain ⟨k, hk, rfl, hr⟩ := hrel
          have HR := Lib.hid hr
          clear hr
          by_cases hlt : k < s.size
          · have hd := drop_at s k hlt
            have hrow : rowLen (s.data.toList.drop k) = if word s[k] = true then rowLen (s.data.toList.drop (k + 1)) + 1 else 0 := by rw [hd]; rfl
            have HRW := Lib.hid hrow
            clear hd hrow
            cases hLk : lett s[k] with
            | true =>
              have hw : word s[k] = true := by simp [word, hLk]
              go_wp2_with (first | (go_at_call 84; refine (rletter_any s[k] _).mono ?_; rintro e w' ⟨rfl, rfl⟩; simp only [hLk]))
              go_round
              case rel => exact ⟨k + 1, by omega, by go_num, by rw [HR.out, HRW.out, if_pos hw]; omega⟩
              case measure => simp [intOf]; omega
            | false =>
              cases hD : dig s[k] with
              | true =>
                have hw : word s[k] = true := by simp [word, hLk, hD]
                go_wp2_with (first | (go_at_call 84; refine (rletter_any s[k] _).mono ?_; rintro e w' ⟨rfl, rfl⟩; simp only [hLk]) | (go_at_call 85; refine (rdigit_any s[k] _).mono ?_; rintro e w' ⟨rfl, rfl⟩; simp only [hD]))
                go_round
                case rel => exact ⟨k + 1, by omega, by go_num, by rw [HR.out, HRW.out, if_pos hw]; omega⟩
                case measure => simp [intOf]; omega
              | false =>
                have hw : ¬ word s[k] = true := by simp [word, hLk, hD]
                have hfin : nameOk (c :: l) = false := by
                  rw [HRES.out, HR.out, HRW.out, if_neg hw]; exact decide_eq_false (by omega)
                go_wp2_with (first | (go_at_call 84; refine (rletter_any s[k] _).mono ?_; rintro e w' ⟨rfl, rfl⟩; simp only [hLk]) | (go_at_call 85; refine (rdigit_any s[k] _).mono ?_; rintro e w' ⟨rfl, rfl⟩; simp only [hD]))
                go_ret
                exact ⟨rfl, rfl⟩
          · have hz : s.data.toList.drop k = [] := List.drop_of_length_le (by rw [← Lib.size_eq]; omega)
            have hfin : nameOk (c :: l) = true := by
              rw [HRES.out, HR.out, hz]; exact decide_eq_true (by simp only [rowLen]; omega)
            go_wp2
            go_ret
            exact ⟨rfl, rfl⟩

theorem infoR : (Tryd.prog.info? 102).map (fun i => (i.zero, i.size, i.bytes)) = some (some (.agg #[.int .i64 0, .string ⟨#[]⟩, .int .i64 0, .int .i64 0]), 4, 40) := by kernel_rfl

theorem owns_one {B : Nat} {w : World} {e : TypeId} {v : Value} {a : List Tok} {n : Nat} {cs : List Value} {t : Tok} (h : w.ownsRow B e 4 v n (tall a ++ cs)) (hn : n = a.length + 1) (hc : cs = tcells t) : Owns B w e v (a ++ [t]) := by
  unfold Owns
  subst hn hc
  rw [tall_append, List.length_append]
  exact h

/-- Within a line. -/
theorem line_at {t : ByteArray} {i : Nat} {c : UInt8} {l R : List UInt8} (h : t.data.toList.drop i = c :: (l ++ 10 :: R)) (hno : ∀ d ∈ c :: l, d ≠ 10) (k : Nat) (hk : k ≤ l.length + 1) :
    ∃ h' : i + k < t.size, (k ≤ l.length → t[i + k] ≠ 10) ∧ (k = l.length + 1 → t[i + k] = 10) := by
  have hlen : l.length + 2 + R.length + i = t.size := by
    have h1 : (t.data.toList.drop i).length = l.length + 2 + R.length := by rw [h]; simp; omega
    rw [List.length_drop, ← Lib.size_eq] at h1; omega
  have hik : i + k < t.size := by omega
  have hg : t.data.toList[i + k]? = some t[i + k] := by
    rw [List.getElem?_eq_getElem (by rw [← Lib.size_eq]; exact hik)]; rfl
  have hd : (t.data.toList.drop i)[k]? = some t[i + k] := by rw [List.getElem?_drop]; exact hg
  rw [h, show c :: (l ++ 10 :: R) = (c :: l) ++ 10 :: R from rfl] at hd
  refine ⟨hik, fun hkl => ?_, fun hkl => ?_⟩
  · rw [List.getElem?_append_left (by simp; omega)] at hd
    exact hno _ (List.mem_of_getElem? hd)
  · rw [List.getElem?_append_right (by simp; omega)] at hd
    subst hkl
    simpa using hd.symm

theorem last_at (s : ByteArray) (h : 0 < s.size) : s.data.toList.getLast? = some s[s.size - 1] := by
  rw [List.getLast?_eq_getElem?, ← Lib.size_eq, List.getElem?_eq_getElem (by rw [← Lib.size_eq]; omega)]
  rfl

/-- How the document's own Tokens ends. -/
def RefEnd (B : Nat) (t : List UInt8) (e : Ending) (w' : World) : Prop :=
  if (txt t 1).2 = (0, 0) then ∃ v', e = .returned (.tuple #[v', .int .i64 0, .int .i64 0]) ∧ Owns B w' 102 v' (txt t 1).1
  else e = .returned (.tuple #[.slice none 0 0, .int .i64 (txt t 1).2.1, .int .i64 (txt t 1).2.2])

theorem word_not' {c : UInt8} (h : ¬ word c = true) : lett c = false ∧ dig c = false := by
  unfold word at h
  cases hL : lett c <;> cases hD : dig c <;> simp [hL, hD] at h ⊢
theorem word_lett {c : UInt8} (h : word c = true) : lett c = true ∨ (lett c = false ∧ dig c = true) := by
  unfold word at h
  cases hL : lett c <;> cases hD : dig c <;> simp [hL, hD] at h ⊢

def testOf (t : List UInt8) : Bool := decide (t ≠ []) && decide (t.getLast? ≠ some 10)

set_option maxRecDepth 100000 in
set_option maxHeartbeats 8000000 in
theorem rtokens_any (s : ByteArray) (w : World) (hs : s.size ≤ 900000) :
    Calls Tryd.prog 62 #[.string s] w fun e w' => Below w.heap.size w w' ∧ RefEnd w.heap.size s.data.toList e w' := by
  obtain ⟨i0, hi, hz0, hz1, hz2⟩ := info_parts infoR
  obtain ⟨B, hB⟩ : ∃ B, B = w.heap.size := ⟨_, rfl⟩
  rw [← hB]
  have hB' : B ≤ w.heap.size := by omega
  have hbw : Below B w w := Below.refl _ _
  clear hB
  generalize hT : s.data.toList = T
  go_enter Tryd.func62, Tryd.ntmps62
  go_upto_region 1 with fail
  go_cut [23] from 13 to 23 (fun b wx => b = .bool (testOf T) ∧ wx = w)
  case first =>
    by_cases h0 : s.size = 0
    · have hTn : T = [] := by rw [← hT]; exact List.eq_nil_of_length_eq_zero (by rw [← Lib.size_eq]; exact h0)
      go_wp2_with fail
      go_meet
      exact ⟨by rw [hTn]; rfl, rfl⟩
    · have hp : 0 < s.size := by omega
      have hla := last_at s hp
      rw [hT] at hla
      have hTn : T ≠ [] := by intro h; rw [h] at hla; cases hla
      have hx : ((s.size : Int) - 1).toNat = s.size - 1 := by omega
      have h1 : (0 : Int) ≤ (s.size : Int) - 1 := by omega
      have h2 : (s.size : Int) - 1 < s.size := by omega
      go_wp2_with fail
      go_meet
      refine ⟨congrArg Value.bool ?_, rfl⟩
      unfold testOf
      rw [hla, Bool.eq_iff_iff]
      simp [hTn, ← UInt8.toNat_inj]
      try omega
  case rest =>
    obtain ⟨rfl, rfl⟩ := hcut
    go_upto_if 23 with fail
    go_cut [0, 23] from 24 to 25 (fun s0 s23 wx => ∃ t2 : ByteArray, s23 = .bool (testOf T) ∧ s0 = .string t2 ∧ t2.data.toList = nl T ∧ t2.size ≤ 900001 ∧ wx = wc)
    case first =>
      cases hb : testOf T
      · go_wp2_with fail
        go_meet
        refine ⟨s, by rw [hb], rfl, ?_, by omega, rfl⟩
        rw [hT]
        unfold testOf at hb
        unfold nl
        rw [if_pos]
        by_cases h : T = []
        · exact .inl h
        · right
          simpa [h] using hb
      · have hcat : ∀ w, (Op.stringOp .add s ⟨#[10]⟩).run Tryd.prog w = .ok (.string (s ++ ⟨#[10]⟩)) w := fun w => run_string_add_sum w _ _ (by show s.size + 1 ≤ _; omega)
        go_wp2_with fail
        go_meet
        refine ⟨s ++ ⟨#[10]⟩, by rw [hb], rfl, ?_, by rw [ByteArray.size_append]; show s.size + 1 ≤ _; omega, rfl⟩
        have h1 : (s ++ ⟨#[10]⟩ : ByteArray).data.toList = s.data.toList ++ [10] := by simp
        rw [h1, hT]
        unfold testOf at hb
        unfold nl
        rw [if_neg]
        simpa using hb
    case rest =>
      obtain ⟨t2, rfl, rfl, ht2, hs2, rfl⟩ := hcut
      clear hT hs
      go_wp2
      go_loopw [5, 6, 7, 8] (fun vl ln cl ix wr => ∃ (ts : List Tok) (line col i : Nat), ln = .int .i64 line ∧ cl = .int .i64 col ∧ ix = .int .i64 i ∧ i ≤ t2.size ∧ ts.length ≤ i ∧ line ≤ i + 1 ∧ 1 ≤ col ∧ col ≤ i + 1 ∧
          Hid (Stand T ts line col (t2.data.toList.drop i)) ∧ Owns B wr 102 vl ts ∧ Below B wc wr)
        (fun _ _ _ ix _ => t2.size - (intOf ix).toNat)
      case atStart => exact ⟨[], 1, 1, 0, rfl, rfl, rfl, by omega, by simp, by omega, by omega, by omega, Lib.hid (by rw [List.drop_zero, ht2]; exact stand_start T), Owns.nil _ _ _, hbw⟩
      case round =>
        obtain ⟨ts, line, col, i, rfl, rfl, rfl, hi2, hts, hli, hc1, hci, HST, hown', hb⟩ := hrel
        have hBr : B ≤ wr.heap.size := Nat.le_trans hB' hb.size
        have HO := Lib.hid hown'
        clear hown'
        by_cases hlt : i < t2.size
        · have hd := drop_at t2 i hlt
          have hst := HST.out
          rw [hd] at hst
          have hdd : ∀ n, t2.data.toList.drop (i + n) = (t2.data.toList.drop i).drop n := fun n => by rw [List.drop_drop]
          rw [hd] at hdd
          generalize hc : t2[i] = c at *
          clear HST
          by_cases h10 : c = 10
          · subst h10
            have HS2 : Hid (Stand T (ts ++ [⟨5, [], line, col⟩]) (line + 1) 1 (t2.data.toList.drop (i + 1))) := Lib.hid (by rw [hdd 1]; exact stand_line hst)
            clear hst hd hdd
            go_wp2_with (at_builtin; refine wpList_append_own _ rfl (.tmp 52) (.tmp 56) 97 rfl B 102 i0 (.agg #[.int .i64 0, .string ⟨#[]⟩, .int .i64 0, .int .i64 0]) 4 40 Tryd.underlying97 hi hz0 hz1 hz2 rfl (by decide) _ ts.length (tall ts) rfl (HO.out.alloc _) ⟨wr.heap.size, 0, none⟩ 1 1 [.int .i64 5, .string ⟨#[]⟩, .int .i64 line, .int .i64 col] rfl rfl (World.news_of_block (cs := #[.int .i64 5, .string ⟨#[]⟩, .int .i64 line, .int .i64 col]) (t := 102) (fr := (0, 0)) (heap_alloc_new wr _)) (by simp [Value.oneCell']) (by unfold maxLen; omega) (by omega) (by simp; omega) ?_; intro v3 w3 hown3 hgrow3 _)
            go_roundw
            case rel =>
              refine ⟨ts ++ [⟨5, [], line, col⟩], line + 1, 1, i + 1, by go_num, by go_num, by go_num, by omega, by simp; omega, by omega, by omega, by omega, HS2, ?_, ?_⟩
              · exact owns_one hown3 rfl (by simp only [tcells]; first | rfl | (push_cast; rfl))
              · exact own_grows (HO.out.alloc _) (hb.alloc hBr _) (by simp; omega) hgrow3
            case measure => simp [intOf]; omega

          · obtain ⟨l, r, hD, hno, htold⟩ := stand_in hst h10
            have n10 : ¬ (c.toNat : Int) = 10 := fun h => h10 (UInt8.toNat_inj.1 (by show c.toNat = 10; omega))
            clear hst
            rw [hD] at hd hdd
            generalize hR : nl r = R at *
            have hlen : l.length + 2 + R.length + i = t2.size := by
              have h1 : (t2.data.toList.drop i).length = l.length + 2 + R.length := by rw [hd]; simp; omega
              rw [List.length_drop, ← Lib.size_eq] at h1; omega
            by_cases h32 : c = 32
            · subst h32
              have HS2 : Hid (Stand T ts line (col + 1) (t2.data.toList.drop (i + 1))) := Lib.hid (by rw [hdd 1, ← hR]; exact stand_pass hno htold rfl)
              clear hd hdd htold hno
              go_wp2
              go_roundw
              case rel => exact ⟨ts, line, col + 1, i + 1, by go_num, by go_num, by go_num, by omega, by omega, by omega, by omega, by omega, HS2, HO.out, hb⟩
              case measure => simp [intOf]; omega
            · have n32 : ¬ (c.toNat : Int) = 32 := fun h => h32 (UInt8.toNat_inj.1 (by show c.toNat = 32; omega))
              by_cases h35 : c = 35
              · subst h35
                have HS2 : Hid (Stand T ts line (col + (l.length + 1)) (t2.data.toList.drop (i + (l.length + 1)))) := Lib.hid (by rw [hdd, ← hR]; exact stand_pass hno htold rfl)
                have HL := Lib.hid (fun k => line_at hd hno k)
                clear hdd htold hd hno
                go_wp2
                go_loop [10] (fun n => ∃ k : Nat, 1 ≤ k ∧ k ≤ l.length + 1 ∧ n = .int .i64 k) (fun n => l.length + 1 - (intOf n).toNat)
                case atStart => exact ⟨1, by omega, by omega, rfl⟩
                case round =>
                  obtain ⟨k, hk1, hk2, rfl⟩ := hrel
                  obtain ⟨hik, ha, hz⟩ := HL.out k hk2
                  have e1 : (0 : Int) ≤ (i : Int) + k := by omega
                  have e2 : (i : Int) + k < t2.size := by omega
                  have e3 : ((i : Int) + k).toNat = i + k := by omega
                  by_cases hkl : k ≤ l.length
                  · have hne := ha hkl
                    have nn : ¬ (t2[i + k].toNat : Int) = 10 := fun h => hne (UInt8.toNat_inj.1 (by show _ = 10; omega))
                    clear ha hz hne
                    go_wp2
                    go_round
                    case rel => exact ⟨k + 1, by omega, by omega, by go_num⟩
                    case measure => simp [intOf]; omega
                  · have hkk : k = l.length + 1 := by omega
                    have heq := hz hkk
                    have nn : (t2[i + k].toNat : Int) = 10 := by rw [heq]; rfl
                    subst hkk
                    clear ha hz
                    go_wp2
                    go_roundw
                    case rel => exact ⟨ts, line, col + (l.length + 1), i + (l.length + 1), by go_num, by go_num, by go_num, by omega, by omega, by omega, by omega, by omega, HS2, HO.out, hb⟩
                    case measure => simp [intOf]; omega
              · have n35 : ¬ (c.toNat : Int) = 35 := fun h => h35 (UInt8.toNat_inj.1 (by show c.toNat = 35; omega))
                by_cases h58 : c = 58
                · skip
                  subst h58
                  have HS2 : Hid (Stand T (ts ++ [⟨3, [58], line, col⟩]) line (col + 1) (t2.data.toList.drop (i + 1))) := Lib.hid (by rw [hdd 1, ← hR]; exact stand_tok hno htold rfl (by decide) (by decide))
                  clear hd hdd htold hno
                  go_wp2_with (at_builtin; refine wpList_append_own _ rfl (.tmp 61) (.tmp 65) 97 rfl B 102 i0 (.agg #[.int .i64 0, .string ⟨#[]⟩, .int .i64 0, .int .i64 0]) 4 40 Tryd.underlying97 hi hz0 hz1 hz2 rfl (by decide) _ ts.length (tall ts) rfl (HO.out.alloc _) ⟨wr.heap.size, 0, none⟩ 1 1 [.int .i64 3, .string ⟨#[58]⟩, .int .i64 line, .int .i64 col] rfl rfl (World.news_of_block (cs := #[.int .i64 3, .string ⟨#[58]⟩, .int .i64 line, .int .i64 col]) (t := 102) (fr := (0, 0)) (heap_alloc_new wr _)) (by simp [Value.oneCell']) (by unfold maxLen; omega) (by omega) (by simp; omega) ?_; intro v3 w3 hown3 hgrow3 _)
                  go_roundw
                  case rel =>
                    refine ⟨ts ++ [⟨3, [58], line, col⟩], line, col + 1, i + 1, by go_num, by go_num, by go_num, by omega, by simp; omega, by omega, by omega, by omega, HS2, ?_, ?_⟩
                    · exact owns_one hown3 rfl (by simp only [tcells]; first | rfl | (push_cast; rfl))
                    · exact own_grows (HO.out.alloc _) (hb.alloc hBr _) (by simp; omega) hgrow3
                  case measure => simp [intOf]; omega

                · have n58 : ¬ (c.toNat : Int) = 58 := fun h => h58 (UInt8.toNat_inj.1 (by show c.toNat = 58; omega))
                  by_cases h124 : c = 124
                  · skip
                    subst h124
                    have HS2 : Hid (Stand T (ts ++ [⟨4, [124], line, col⟩]) line (col + 1) (t2.data.toList.drop (i + 1))) := Lib.hid (by rw [hdd 1, ← hR]; exact stand_tok hno htold rfl (by decide) (by decide))
                    clear hd hdd htold hno
                    go_wp2_with (at_builtin; refine wpList_append_own _ rfl (.tmp 70) (.tmp 74) 97 rfl B 102 i0 (.agg #[.int .i64 0, .string ⟨#[]⟩, .int .i64 0, .int .i64 0]) 4 40 Tryd.underlying97 hi hz0 hz1 hz2 rfl (by decide) _ ts.length (tall ts) rfl (HO.out.alloc _) ⟨wr.heap.size, 0, none⟩ 1 1 [.int .i64 4, .string ⟨#[124]⟩, .int .i64 line, .int .i64 col] rfl rfl (World.news_of_block (cs := #[.int .i64 4, .string ⟨#[124]⟩, .int .i64 line, .int .i64 col]) (t := 102) (fr := (0, 0)) (heap_alloc_new wr _)) (by simp [Value.oneCell']) (by unfold maxLen; omega) (by omega) (by simp; omega) ?_; intro v3 w3 hown3 hgrow3 _)
                    go_roundw
                    case rel =>
                      refine ⟨ts ++ [⟨4, [124], line, col⟩], line, col + 1, i + 1, by go_num, by go_num, by go_num, by omega, by simp; omega, by omega, by omega, by omega, HS2, ?_, ?_⟩
                      · exact owns_one hown3 rfl (by simp only [tcells]; first | rfl | (push_cast; rfl))
                      · exact own_grows (HO.out.alloc _) (hb.alloc hBr _) (by simp; omega) hgrow3
                    case measure => simp [intOf]; omega

                  · have n124 : ¬ (c.toNat : Int) = 124 := fun h => h124 (UInt8.toNat_inj.1 (by show c.toNat = 124; omega))
                    have hpc : piece c l = (kindOf ((c :: l).take (rowLen (c :: l))), rowLen (c :: l)) := by simp [piece, h32, h35, h58, h124]
                    by_cases hw : word c = true
                    · have hr1 : rowLen (c :: l) = rowLen l + 1 := by simp [rowLen, hw]
                      have hrl := rowLen_le l
                      have hrow : rowLen (t2.data.toList.drop i) = rowLen (c :: l) := by rw [hd]; exact rowLen_line (c :: l) R
                      generalize hN : rowLen (c :: l) = N at *
                      have htk : (c :: l).take N = c :: l.take (N - 1) := by rw [hr1]; simp
                      have hkd : kindOf ((c :: l).take N) = if nameOk ((c :: l).take N) = true then (if up c = true then 1 else 2) else 0 := by rw [htk]; rfl
                      have hext : t2.extract i (i + N) = ⟨((c :: l).take N).toArray⟩ := by
                        rw [ext_mid, hd, show c :: (l ++ 10 :: R) = (c :: l) ++ 10 :: R from rfl, List.take_append_of_le_length (by simp; omega)]
                      have hnm := rname_any ⟨((c :: l).take N).toArray⟩
                      have HN : Hid (∀ w, Calls Tryd.prog 48 #[.string ⟨((c :: l).take N).toArray⟩] w fun e w' => e = .returned (.bool (nameOk ((c :: l).take N))) ∧ w' = w) := Lib.hid fun w => hnm w (by show ((c :: l).take N).length ≤ _; simp; unfold maxLen; omega)
                      have HL := Lib.hid (fun k => line_at hd hno k)
                      have HROW := Lib.hid hrow
                      clear hrow hnm
                      have hwr := word_lett hw
                      have HDD := Lib.hid hdd
                      have HNO := Lib.hid hno
                      have HTOLD := Lib.hid htold
                      have HPC := Lib.hid hpc
                      have HTK := Lib.hid htk
                      have HKD := Lib.hid hkd
                      have HEXT := Lib.hid hext
                      have hN1 : 1 ≤ N := by omega
                      have hN3 : N ≤ l.length + 1 := by omega
                      have HK1 : Hid (N = 1 + rowLen (t2.data.toList.drop (i + 1))) := Lib.hid (by
                        have h1 : t2.data.toList.drop i = c :: t2.data.toList.drop (i + 1) := by rw [hdd 1, hd]; rfl
                        have h2 := HROW.out
                        rw [h1] at h2
                        simp [rowLen, hw] at h2
                        omega)
                      clear hdd hno htold hpc htk hkd hext hd hr1 hN HROW
                      rcases hwr with hLc | ⟨hLc, hDc⟩
                      · have hDc : (dig c) = dig c := rfl
                        go_wp2_with (first | (go_at_call 84; refine (rletter_any c _).mono ?_; rintro e w' ⟨rfl, rfl⟩; simp only [hLc]) | (go_at_call 85; refine (rdigit_any c _).mono ?_; rintro e w' ⟨rfl, rfl⟩; simp only [hDc]))
                        go_loop [10] (fun n => ∃ k : Nat, 1 ≤ k ∧ k ≤ N ∧ n = .int .i64 k ∧ Hid (N = k + rowLen (t2.data.toList.drop (i + k)))) (fun n => N - (intOf n).toNat)
                        case atStart => exact ⟨1, by omega, by omega, rfl, HK1⟩
                        case round =>
                          obtain ⟨k, hk1, hk2, rfl, HK⟩ := hrel
                          obtain ⟨hik, _, _⟩ := HL.out k (by omega)
                          have hdk := drop_at t2 (i + k) hik
                          have hrk : rowLen (t2.data.toList.drop (i + k)) = if word t2[i + k] = true then rowLen (t2.data.toList.drop (i + k + 1)) + 1 else 0 := by rw [hdk]; rfl
                          have HRK := Lib.hid hrk
                          clear hdk hrk
                          have e1 : (0 : Int) ≤ (i : Int) + k := by omega
                          have e2 : (i : Int) + k < t2.size := by omega
                          have e3 : ((i : Int) + k).toNat = i + k := by omega
                          have rounds : word t2[i + k] = true → N = k + 1 + rowLen (t2.data.toList.drop (i + (k + 1))) := fun h => by rw [HK.out, HRK.out, if_pos h, Nat.add_assoc i k 1]; omega
                          cases hLk : lett t2[i + k] with
                          | true =>
                            have hr := Lib.hid (rounds (by simp [word, hLk]))
                            have hk3 : k + 1 ≤ N := by have := hr.out; omega
                            clear rounds
                            go_wp2_with (first | (go_at_call 84; refine (rletter_any t2[i + k] _).mono ?_; rintro e w' ⟨rfl, rfl⟩; simp only [hLk]) | (go_at_call 85; refine (rdigit_any t2[i + k] _).mono ?_; rintro e w' ⟨rfl, rfl⟩; simp only [hDk]))
                            go_round
                            case rel => exact ⟨k + 1, by omega, hk3, by go_num, hr⟩
                            case measure => simp [intOf]; omega
                          | false =>
                            cases hDk : dig t2[i + k] with
                            | true =>
                              have hr := Lib.hid (rounds (by simp [word, hLk, hDk]))
                              have hk3 : k + 1 ≤ N := by have := hr.out; omega
                              clear rounds
                              go_wp2_with (first | (go_at_call 84; refine (rletter_any t2[i + k] _).mono ?_; rintro e w' ⟨rfl, rfl⟩; simp only [hLk]) | (go_at_call 85; refine (rdigit_any t2[i + k] _).mono ?_; rintro e w' ⟨rfl, rfl⟩; simp only [hDk]))
                              go_round
                              case rel => exact ⟨k + 1, by omega, hk3, by go_num, hr⟩
                              case measure => simp [intOf]; omega
                            | false =>
                              have hkN : k = N := by
                                have h := HK.out
                                rw [HRK.out, if_neg (by simp [word, hLk, hDk])] at h
                                omega
                              subst hkN
                              clear rounds HRK HK HL
                              have b1 : (i : Int) ≤ (i : Int) + k := by omega
                              have b2 : (i : Int) + k ≤ t2.size := by omega
                              have hext := HEXT.out
                              cases hN2 : nameOk ((c :: l).take k) with
                              | false =>
                                have hp0 : (piece c l).1 = 0 := by rw [HPC.out]; show kindOf _ = 0; rw [HKD.out, hN2]; rfl
                                have hfin := stand_wrong (by omega) HTOLD.out hp0
                                have HF := Lib.hid hfin
                                clear hfin hp0
                                go_wp2_with (first | (go_at_call 48; refine (HN.out _).mono ?_; rintro e w' ⟨rfl, rfl⟩; simp only [hN2]) | (go_at_call 84; refine (rletter_any t2[i + k] _).mono ?_; rintro e w' ⟨rfl, rfl⟩; simp only [hLk]) | (go_at_call 85; refine (rdigit_any t2[i + k] _).mono ?_; rintro e w' ⟨rfl, rfl⟩; simp only [hDk]))
                                go_ret3
                                refine ⟨hb, ?_⟩
                                unfold RefEnd
                                rw [HF.out, if_neg (by simp; omega)]
                                rfl
                              | true =>
                                have hlc : lett c = true := by rw [HTK.out] at hN2; unfold nameOk at hN2; simp at hN2; exact hN2.1.2
                                cases hU : up c with
                                | true =>
                                  have hcu : (c.toNat : Int) < 97 := by unfold up at hU; simp at hU; omega
                                  have hkk : piece c l = (1, k) := by rw [HPC.out, HKD.out, hN2, hU]; rfl
                                  have HS2 : Hid (Stand T (ts ++ [⟨1, (c :: l).take k, line, col⟩]) line (col + k) (t2.data.toList.drop (i + k))) := Lib.hid (by rw [HDD.out k, ← hR]; exact stand_tok HNO.out HTOLD.out hkk (by decide) (by decide))
                                  clear hkk
                                  go_wp2_with (first | (go_at_call 48; refine (HN.out _).mono ?_; rintro e w' ⟨rfl, rfl⟩; simp only [hN2]) | (go_at_call 84; refine (rletter_any t2[i + k] _).mono ?_; rintro e w' ⟨rfl, rfl⟩; simp only [hLk]) | (go_at_call 85; refine (rdigit_any t2[i + k] _).mono ?_; rintro e w' ⟨rfl, rfl⟩; simp only [hDk]) | (at_builtin; refine wpList_append_own _ rfl (.tmp 112) (.tmp 118) 97 rfl B 102 i0 (.agg #[.int .i64 0, .string ⟨#[]⟩, .int .i64 0, .int .i64 0]) 4 40 Tryd.underlying97 hi hz0 hz1 hz2 rfl (by decide) _ ts.length (tall ts) rfl (HO.out.alloc _) ⟨_, 0, none⟩ 1 1 [.int .i64 1, .string ⟨((c :: l).take k).toArray⟩, .int .i64 line, .int .i64 col] rfl rfl (World.news_of_block (cs := #[.int .i64 1, .string ⟨((c :: l).take k).toArray⟩, .int .i64 line, .int .i64 col]) (t := 102) (fr := (0, 0)) (heap_alloc_new _ _)) (by simp [Value.oneCell']) (by unfold maxLen; omega) (by omega) (by simp; omega) ?_; intro v3 w3 hown3 hgrow3 _))
                                  go_roundw
                                  case rel =>
                                    refine ⟨ts ++ [⟨1, (c :: l).take k, line, col⟩], line, col + k, i + k, by go_num, by go_num, by go_num, by omega, by simp; omega, by omega, by omega, by omega, HS2, ?_, ?_⟩
                                    · exact owns_one hown3 rfl (by simp only [tcells]; first | rfl | (push_cast; rfl))
                                    · exact own_grows (HO.out.alloc _) (hb.alloc hBr _) (by simp; omega) hgrow3
                                  case measure => simp [intOf]; omega
                                | false =>
                                  have hcu : ¬ (c.toNat : Int) < 97 := by unfold lett low at hlc; rw [hU] at hlc; simp at hlc; omega
                                  have hkk : piece c l = (2, k) := by rw [HPC.out, HKD.out, hN2, hU]; rfl
                                  have HS2 : Hid (Stand T (ts ++ [⟨2, (c :: l).take k, line, col⟩]) line (col + k) (t2.data.toList.drop (i + k))) := Lib.hid (by rw [HDD.out k, ← hR]; exact stand_tok HNO.out HTOLD.out hkk (by decide) (by decide))
                                  clear hkk
                                  go_wp2_with (first | (go_at_call 48; refine (HN.out _).mono ?_; rintro e w' ⟨rfl, rfl⟩; simp only [hN2]) | (go_at_call 84; refine (rletter_any t2[i + k] _).mono ?_; rintro e w' ⟨rfl, rfl⟩; simp only [hLk]) | (go_at_call 85; refine (rdigit_any t2[i + k] _).mono ?_; rintro e w' ⟨rfl, rfl⟩; simp only [hDk]) | (at_builtin; refine wpList_append_own _ rfl (.tmp 112) (.tmp 118) 97 rfl B 102 i0 (.agg #[.int .i64 0, .string ⟨#[]⟩, .int .i64 0, .int .i64 0]) 4 40 Tryd.underlying97 hi hz0 hz1 hz2 rfl (by decide) _ ts.length (tall ts) rfl (HO.out.alloc _) ⟨_, 0, none⟩ 1 1 [.int .i64 2, .string ⟨((c :: l).take k).toArray⟩, .int .i64 line, .int .i64 col] rfl rfl (World.news_of_block (cs := #[.int .i64 2, .string ⟨((c :: l).take k).toArray⟩, .int .i64 line, .int .i64 col]) (t := 102) (fr := (0, 0)) (heap_alloc_new _ _)) (by simp [Value.oneCell']) (by unfold maxLen; omega) (by omega) (by simp; omega) ?_; intro v3 w3 hown3 hgrow3 _))
                                  go_roundw
                                  case rel =>
                                    refine ⟨ts ++ [⟨2, (c :: l).take k, line, col⟩], line, col + k, i + k, by go_num, by go_num, by go_num, by omega, by simp; omega, by omega, by omega, by omega, HS2, ?_, ?_⟩
                                    · exact owns_one hown3 rfl (by simp only [tcells]; first | rfl | (push_cast; rfl))
                                    · exact own_grows (HO.out.alloc _) (hb.alloc hBr _) (by simp; omega) hgrow3
                                  case measure => simp [intOf]; omega
                      · skip
                        go_wp2_with (first | (go_at_call 84; refine (rletter_any c _).mono ?_; rintro e w' ⟨rfl, rfl⟩; simp only [hLc]) | (go_at_call 85; refine (rdigit_any c _).mono ?_; rintro e w' ⟨rfl, rfl⟩; simp only [hDc]))
                        go_loop [10] (fun n => ∃ k : Nat, 1 ≤ k ∧ k ≤ N ∧ n = .int .i64 k ∧ Hid (N = k + rowLen (t2.data.toList.drop (i + k)))) (fun n => N - (intOf n).toNat)
                        case atStart => exact ⟨1, by omega, by omega, rfl, HK1⟩
                        case round =>
                          obtain ⟨k, hk1, hk2, rfl, HK⟩ := hrel
                          obtain ⟨hik, _, _⟩ := HL.out k (by omega)
                          have hdk := drop_at t2 (i + k) hik
                          have hrk : rowLen (t2.data.toList.drop (i + k)) = if word t2[i + k] = true then rowLen (t2.data.toList.drop (i + k + 1)) + 1 else 0 := by rw [hdk]; rfl
                          have HRK := Lib.hid hrk
                          clear hdk hrk
                          have e1 : (0 : Int) ≤ (i : Int) + k := by omega
                          have e2 : (i : Int) + k < t2.size := by omega
                          have e3 : ((i : Int) + k).toNat = i + k := by omega
                          have rounds : word t2[i + k] = true → N = k + 1 + rowLen (t2.data.toList.drop (i + (k + 1))) := fun h => by rw [HK.out, HRK.out, if_pos h, Nat.add_assoc i k 1]; omega
                          cases hLk : lett t2[i + k] with
                          | true =>
                            have hr := Lib.hid (rounds (by simp [word, hLk]))
                            have hk3 : k + 1 ≤ N := by have := hr.out; omega
                            clear rounds
                            go_wp2_with (first | (go_at_call 84; refine (rletter_any t2[i + k] _).mono ?_; rintro e w' ⟨rfl, rfl⟩; simp only [hLk]) | (go_at_call 85; refine (rdigit_any t2[i + k] _).mono ?_; rintro e w' ⟨rfl, rfl⟩; simp only [hDk]))
                            go_round
                            case rel => exact ⟨k + 1, by omega, hk3, by go_num, hr⟩
                            case measure => simp [intOf]; omega
                          | false =>
                            cases hDk : dig t2[i + k] with
                            | true =>
                              have hr := Lib.hid (rounds (by simp [word, hLk, hDk]))
                              have hk3 : k + 1 ≤ N := by have := hr.out; omega
                              clear rounds
                              go_wp2_with (first | (go_at_call 84; refine (rletter_any t2[i + k] _).mono ?_; rintro e w' ⟨rfl, rfl⟩; simp only [hLk]) | (go_at_call 85; refine (rdigit_any t2[i + k] _).mono ?_; rintro e w' ⟨rfl, rfl⟩; simp only [hDk]))
                              go_round
                              case rel => exact ⟨k + 1, by omega, hk3, by go_num, hr⟩
                              case measure => simp [intOf]; omega
                            | false =>
                              have hkN : k = N := by
                                have h := HK.out
                                rw [HRK.out, if_neg (by simp [word, hLk, hDk])] at h
                                omega
                              subst hkN
                              clear rounds HRK HK HL
                              have b1 : (i : Int) ≤ (i : Int) + k := by omega
                              have b2 : (i : Int) + k ≤ t2.size := by omega
                              have hext := HEXT.out
                              cases hN2 : nameOk ((c :: l).take k) with
                              | false =>
                                have hp0 : (piece c l).1 = 0 := by rw [HPC.out]; show kindOf _ = 0; rw [HKD.out, hN2]; rfl
                                have hfin := stand_wrong (by omega) HTOLD.out hp0
                                have HF := Lib.hid hfin
                                clear hfin hp0
                                go_wp2_with (first | (go_at_call 48; refine (HN.out _).mono ?_; rintro e w' ⟨rfl, rfl⟩; simp only [hN2]) | (go_at_call 84; refine (rletter_any t2[i + k] _).mono ?_; rintro e w' ⟨rfl, rfl⟩; simp only [hLk]) | (go_at_call 85; refine (rdigit_any t2[i + k] _).mono ?_; rintro e w' ⟨rfl, rfl⟩; simp only [hDk]))
                                go_ret3
                                refine ⟨hb, ?_⟩
                                unfold RefEnd
                                rw [HF.out, if_neg (by simp; omega)]
                                rfl
                              | true =>
                                have hlc : lett c = true := by rw [HTK.out] at hN2; unfold nameOk at hN2; simp at hN2; exact hN2.1.2
                                cases hU : up c with
                                | true =>
                                  have hcu : (c.toNat : Int) < 97 := by unfold up at hU; simp at hU; omega
                                  have hkk : piece c l = (1, k) := by rw [HPC.out, HKD.out, hN2, hU]; rfl
                                  have HS2 : Hid (Stand T (ts ++ [⟨1, (c :: l).take k, line, col⟩]) line (col + k) (t2.data.toList.drop (i + k))) := Lib.hid (by rw [HDD.out k, ← hR]; exact stand_tok HNO.out HTOLD.out hkk (by decide) (by decide))
                                  clear hkk
                                  go_wp2_with (first | (go_at_call 48; refine (HN.out _).mono ?_; rintro e w' ⟨rfl, rfl⟩; simp only [hN2]) | (go_at_call 84; refine (rletter_any t2[i + k] _).mono ?_; rintro e w' ⟨rfl, rfl⟩; simp only [hLk]) | (go_at_call 85; refine (rdigit_any t2[i + k] _).mono ?_; rintro e w' ⟨rfl, rfl⟩; simp only [hDk]) | (at_builtin; refine wpList_append_own _ rfl (.tmp 112) (.tmp 118) 97 rfl B 102 i0 (.agg #[.int .i64 0, .string ⟨#[]⟩, .int .i64 0, .int .i64 0]) 4 40 Tryd.underlying97 hi hz0 hz1 hz2 rfl (by decide) _ ts.length (tall ts) rfl (HO.out.alloc _) ⟨_, 0, none⟩ 1 1 [.int .i64 1, .string ⟨((c :: l).take k).toArray⟩, .int .i64 line, .int .i64 col] rfl rfl (World.news_of_block (cs := #[.int .i64 1, .string ⟨((c :: l).take k).toArray⟩, .int .i64 line, .int .i64 col]) (t := 102) (fr := (0, 0)) (heap_alloc_new _ _)) (by simp [Value.oneCell']) (by unfold maxLen; omega) (by omega) (by simp; omega) ?_; intro v3 w3 hown3 hgrow3 _))
                                  go_roundw
                                  case rel =>
                                    refine ⟨ts ++ [⟨1, (c :: l).take k, line, col⟩], line, col + k, i + k, by go_num, by go_num, by go_num, by omega, by simp; omega, by omega, by omega, by omega, HS2, ?_, ?_⟩
                                    · exact owns_one hown3 rfl (by simp only [tcells]; first | rfl | (push_cast; rfl))
                                    · exact own_grows (HO.out.alloc _) (hb.alloc hBr _) (by simp; omega) hgrow3
                                  case measure => simp [intOf]; omega
                                | false =>
                                  have hcu : ¬ (c.toNat : Int) < 97 := by unfold lett low at hlc; rw [hU] at hlc; simp at hlc; omega
                                  have hkk : piece c l = (2, k) := by rw [HPC.out, HKD.out, hN2, hU]; rfl
                                  have HS2 : Hid (Stand T (ts ++ [⟨2, (c :: l).take k, line, col⟩]) line (col + k) (t2.data.toList.drop (i + k))) := Lib.hid (by rw [HDD.out k, ← hR]; exact stand_tok HNO.out HTOLD.out hkk (by decide) (by decide))
                                  clear hkk
                                  go_wp2_with (first | (go_at_call 48; refine (HN.out _).mono ?_; rintro e w' ⟨rfl, rfl⟩; simp only [hN2]) | (go_at_call 84; refine (rletter_any t2[i + k] _).mono ?_; rintro e w' ⟨rfl, rfl⟩; simp only [hLk]) | (go_at_call 85; refine (rdigit_any t2[i + k] _).mono ?_; rintro e w' ⟨rfl, rfl⟩; simp only [hDk]) | (at_builtin; refine wpList_append_own _ rfl (.tmp 112) (.tmp 118) 97 rfl B 102 i0 (.agg #[.int .i64 0, .string ⟨#[]⟩, .int .i64 0, .int .i64 0]) 4 40 Tryd.underlying97 hi hz0 hz1 hz2 rfl (by decide) _ ts.length (tall ts) rfl (HO.out.alloc _) ⟨_, 0, none⟩ 1 1 [.int .i64 2, .string ⟨((c :: l).take k).toArray⟩, .int .i64 line, .int .i64 col] rfl rfl (World.news_of_block (cs := #[.int .i64 2, .string ⟨((c :: l).take k).toArray⟩, .int .i64 line, .int .i64 col]) (t := 102) (fr := (0, 0)) (heap_alloc_new _ _)) (by simp [Value.oneCell']) (by unfold maxLen; omega) (by omega) (by simp; omega) ?_; intro v3 w3 hown3 hgrow3 _))
                                  go_roundw
                                  case rel =>
                                    refine ⟨ts ++ [⟨2, (c :: l).take k, line, col⟩], line, col + k, i + k, by go_num, by go_num, by go_num, by omega, by simp; omega, by omega, by omega, by omega, HS2, ?_, ?_⟩
                                    · exact owns_one hown3 rfl (by simp only [tcells]; first | rfl | (push_cast; rfl))
                                    · exact own_grows (HO.out.alloc _) (hb.alloc hBr _) (by simp; omega) hgrow3
                                  case measure => simp [intOf]; omega
                    · have hwr := word_not' hw
                      have hp0 : (piece c l).1 = 0 := by rw [hpc]; simp [rowLen, hw, kindOf_nil]
                      have hfin := stand_wrong (by omega) htold hp0
                      have HF := Lib.hid hfin
                      obtain ⟨hLc, hDc⟩ := hwr
                      clear hfin hpc hp0 hd hdd htold hno
                      go_wp2_with (first | (go_at_call 84; refine (rletter_any c _).mono ?_; rintro e w' ⟨rfl, rfl⟩; simp only [hLc]) | (go_at_call 85; refine (rdigit_any c _).mono ?_; rintro e w' ⟨rfl, rfl⟩; simp only [hDc]))
                      go_ret3
                      refine ⟨hb, ?_⟩
                      unfold RefEnd
                      rw [HF.out, if_neg (by simp; omega)]
                      rfl
        · have hend : t2.data.toList.drop i = [] := List.drop_of_length_le (by rw [← Lib.size_eq]; omega)
          have hst := HST.out
          rw [hend] at hst
          have hfin : (txt T 1).2 = (0, 0) ∧ (txt T 1).1 = ts := by
            rcases hst with ⟨_, h⟩ | ⟨bs, r, h, _⟩
            · exact ⟨h.1, h.2 rfl⟩
            · cases bs <;> cases h
          have HF := Lib.hid hfin
          clear hst hfin hend HST
          go_wp2
          go_ret3
          refine ⟨hb, ?_⟩
          unfold RefEnd
          rw [HF.out.1, if_pos rfl, HF.out.2]
          exact ⟨_, rfl, HO.out⟩

end Go.Proofs.YtejjdfmobiegdaaDoor
