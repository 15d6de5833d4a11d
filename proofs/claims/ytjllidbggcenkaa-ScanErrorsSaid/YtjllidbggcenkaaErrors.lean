/- ScanErrors: the walk. -/
import Derived.Test.YtjllidbggcenkaaForms
import Derived.Deep.Cut
import Derived.Deep.CutRange
import Derived.Laws.Concat
namespace Go.Proofs.Ytjllidbggcenkaa
open Go.RowKit
open Doc

theorem byte_string (c : Int) (w : World) : (convert 32 9 (.slice (some ⟨w.heap.size, 0, none⟩) 1 1)).run Try.prog (w.alloc (.cells #[.int .u8 c] 5)) = .ok (.string ⟨#[UInt8.ofNat c.toNat]⟩) (w.alloc (.cells #[.int .u8 c] 5)) := by
  rw [run_convert_bytes_string _ _ _ 5 _ _ _ Try.underlying32 Try.underlying5 Try.underlying9]
  have hb : (w.alloc (.cells #[.int .u8 c] 5)).heap[w.heap.size]? = some (.cells #[.int .u8 c] 5) := (MapKept.heap_alloc w _).1
  have hc : (w.alloc (.cells #[.int .u8 c] 5)).cell? ⟨w.heap.size, 0, none⟩ = some (.int .u8 c) := by
    unfold World.cell?; simp only [hb]; rfl
  rw [run_bytesToString (ns := [c])]
  · rfl
  · refine run_loadCells_list _ _ [.int .u8 c] ?_
    intro k v hk
    cases k with
    | zero => cases hk; exact hc
    | succ k => cases k <;> cases hk

def fine (c : UInt8) : Bool := lett c || c == 32 || c == 58 || c == 124 || c == 35 || c == 10

theorem errs_nat : ∀ n < 9, ∀ m < 256, (txt ([65, 58, 32, 98, 10] ++ (List.replicate n 32 ++ [UInt8.ofNat m, 10])) 1).2 = if fine (UInt8.ofNat m) then (0, 0) else (2, n + 1) := by decide +kernel
theorem errs_txt (n : Nat) (hn : n < 9) (c : UInt8) : (txt ([65, 58, 32, 98, 10] ++ (List.replicate n 32 ++ [c, 10])) 1).2 = if fine c then (0, 0) else (2, n + 1) := by
  have h := errs_nat n hn c.toNat c.toNat_lt
  rw [show UInt8.ofNat c.toNat = c by simp] at h
  exact h

def wrongs : List (List UInt8) := [[97, 98, 99, 100, 101, 102, 103, 104, 105], [49], [48, 97], [65, 49, 50, 51, 52, 53, 54, 55, 56]]
theorem wrongs_txt : ∀ n < 9, ∀ x ∈ wrongs, (txt ([10] ++ (List.replicate n 32 ++ (x ++ [32, 58]))) 1).2 = (2, n + 1) := by decide +kernel
theorem wrongs_name : ∀ x ∈ wrongs, nameOk x = false := by decide +kernel

theorem pad_ext : ∀ n < 10, (⟨#[32, 32, 32, 32, 32, 32, 32, 32, 32]⟩ : ByteArray).extract 0 n = ⟨(List.replicate n 32).toArray⟩ := by
  intro n hn
  rw [Lib.extract_eq]
  have : (⟨#[32, 32, 32, 32, 32, 32, 32, 32, 32]⟩ : ByteArray).data.toList = List.replicate 9 32 := rfl
  rw [this, List.drop_zero, Nat.sub_zero, List.take_replicate, Nat.min_eq_left (by omega)]

/-- Tokens of a text that is none, or is one: as the law wants them. -/
theorem toks_bad (l : List UInt8) (w : World) (a b : Nat) (hs : l.length ≤ 1000000) (h : (txt l 1).2 = (a, b)) (ha : a ≠ 0) :
    Calls Try.prog 7 #[.string ⟨l.toArray⟩] w fun e w' => e = .returned (.tuple #[.slice none 0 0, .int .i64 a, .int .i64 b, .int .i64 2]) ∧ Below w.heap.size w w' :=
  tokens_bad ⟨l.toArray⟩ w (txt l 1).1 a b hs (Prod.ext rfl h) (.inl ha)
theorem toks_two (l : List UInt8) (w : World) (m : Nat) (hs : l.length ≤ 1000000) (h : (txt l 1).2 = (2, m + 1)) :
    Calls Try.prog 7 #[.string ⟨l.toArray⟩] w fun e w' => e = .returned (.tuple #[.slice none 0 0, .int .i64 2, .int .i64 (m + 1), .int .i64 2]) ∧ Below w.heap.size w w' :=
  toks_bad l w 2 (m + 1) hs h (by decide)
theorem toks_fine (l : List UInt8) (w : World) (hs : l.length ≤ 1000000) (h : (txt l 1).2 = (0, 0)) :
    Calls Try.prog 7 #[.string ⟨l.toArray⟩] w fun e w' => ∃ v, e = .returned (.tuple #[v, .int .i64 0, .int .i64 0, .int .i64 0]) ∧ Below w.heap.size w w' ∧ Owns w.heap.size w' 27 v (txt l 1).1 :=
  tokens_ok ⟨l.toArray⟩ w (txt l 1).1 hs (Prod.ext rfl h)

theorem wrongs_len : ∀ x ∈ wrongs, x.length ≤ 9 := by decide
theorem names_any (s : ByteArray) (b : Bool) (h : nameOk s.data.toList = b) (hs : s.size ≤ 1000000) (w : World) : Calls Try.prog 11 #[.string s] w fun e w' => e = .returned (.bool b) ∧ w' = w := by
  have := name_any s w (by unfold maxLen; omega)
  rw [h] at this
  exact this

theorem cat2 (a b : List UInt8) : (⟨a.toArray⟩ : ByteArray) ++ ⟨b.toArray⟩ = ⟨(a ++ b).toArray⟩ := by rw [cat]; simp

set_option maxRecDepth 100000 in
set_option maxHeartbeats 8000000 in
theorem errors_walk (c : UInt8) (n : Int) (w : World) : Calls Try.prog 4 #[.int .u8 c.toNat, .int .i64 n] w fun e w' => e = .returned (.bool true) ∧ Below w.heap.size w w' := by
  obtain ⟨m, hm, hmn⟩ : ∃ m : Nat, m < 9 ∧ n % 9 = m := ⟨(n % 9).toNat, by omega, by omega⟩
  have hpad := pad_ext m (by omega)
  have hT := errs_txt m hm c
  have hW := wrongs_txt m hm
  generalize hP : List.replicate m (32 : UInt8) = P at *
  have hPl : P.length = m := by rw [← hP, List.length_replicate]
  clear hP
  have m9 : (m : Int) ≤ 9 := by omega
  have hconv : ∀ w : World, (convert 32 9 (.slice (some ⟨w.heap.size, 0, none⟩) 1 1)).run Try.prog (w.alloc (.cells #[.int .u8 c.toNat] 5)) = .ok (.string ⟨#[c]⟩) (w.alloc (.cells #[.int .u8 c.toNat] 5)) := fun w => by
    rw [byte_string]; simp
  have hPs : (ByteArray.mk P.toArray).size = m := hPl
  have hcat1 : ∀ w, (Op.stringOp .add (⟨#[65, 58, 32, 98, 10]⟩ ++ ⟨P.toArray⟩) ⟨#[c]⟩).run Try.prog w = .ok (.string ((⟨#[65, 58, 32, 98, 10]⟩ ++ ⟨P.toArray⟩) ++ ⟨#[c]⟩)) w := fun w => run_string_add_sum w _ _ (by rw [cat]; show (#[65, 58, 32, 98, 10] ++ P.toArray).size + 1 ≤ _; simp; omega)
  have hcat2 : ∀ w, (Op.stringOp .add ((⟨#[65, 58, 32, 98, 10]⟩ ++ ⟨P.toArray⟩) ++ ⟨#[c]⟩) ⟨#[10]⟩).run Try.prog w = .ok (.string (((⟨#[65, 58, 32, 98, 10]⟩ ++ ⟨P.toArray⟩) ++ ⟨#[c]⟩) ++ ⟨#[10]⟩)) w := fun w => run_string_add_sum w _ _ (by rw [cat, cat]; show (#[65, 58, 32, 98, 10] ++ P.toArray ++ #[c]).size + 1 ≤ _; simp; omega)
  have hstr : ((⟨#[65, 58, 32, 98, 10]⟩ ++ ⟨P.toArray⟩) ++ ⟨#[c]⟩) ++ ⟨#[10]⟩ = (⟨([65, 58, 32, 98, 10] ++ (P ++ [c, 10])).toArray⟩ : ByteArray) := by
    rw [cat, cat, cat]; simp
  generalize hL : [65, 58, 32, 98, 10] ++ (P ++ [c, 10]) = L at *
  have hLl : L.length ≤ 1000000 := by rw [← hL]; simp; omega
  clear hL
  have hl1 : lett c = true → fine c = true := fun h => by simp [fine, h]
  have hfd : fine c = (lett c || (decide ((c.toNat : Int) = 32) || (decide ((c.toNat : Int) = 58) || (decide ((c.toNat : Int) = 124) || (decide ((c.toNat : Int) = 35) || decide ((c.toNat : Int) = 10)))))) := by
    unfold fine
    rw [Bool.eq_iff_iff]
    cases lett c <;> simp [← UInt8.toNat_inj] <;> omega
  cases hf : fine c with
  | true =>
    rw [hf, if_pos rfl] at hT
    go_enter Try.func4, Try.ntmps4
    go_upto_region 4 with (first
      | (go_at_call 10; refine (within_any n 9 (by decide) (by decide) _).mono ?_; rintro e w' ⟨rfl, rfl⟩; rw [hmn])
      | (go_at_call 7; refine (toks_fine L _ hLl hT).mono ?_; rintro e w1 ⟨v, rfl, hb1, hown⟩))
    go_cut [10] from 35 to 48 (fun s wx => s = .bool (lett c) ∧ wx = w1)
    case first =>
      go_wp2_with fail
      all_goals
        go_meet
        refine ⟨congrArg Value.bool ?_, rfl⟩
        unfold lett low up
        rw [Bool.eq_iff_iff]
        simp
        try omega
    case rest =>
      obtain ⟨rfl, rfl⟩ := hcut
      go_upto_region 5 with fail
      go_cut [0, 10, 11, 25] from 49 to 69 (fun s0 s10 s s25 wx => s0 = .int .u8 c.toNat ∧ s25 = .int .u8 c.toNat ∧ s10 = .bool (lett c) ∧ s = .bool true ∧ wx = wc)
      case first =>
        cases hL : lett c
        all_goals
          go_wp2_with fail
          all_goals
            go_meet
            refine ⟨congrArg (Value.int .u8) (by omega), congrArg (Value.int .u8) (by omega), by rw [hL], congrArg Value.bool ?_, rfl⟩
            rw [← hf, hfd, hL, Bool.eq_iff_iff]
            first | done | (simp; done) | (simp; omega)
      case rest =>
        obtain ⟨rfl, rfl, rfl, rfl, rfl⟩ := hcut
        have HS : Hid (Below w'.heap.size w' wc) := Lib.hid (((Below.refl w'.heap.size w').alloc (Nat.le_refl _) _).trans (hb1.mono (by simp)))
        clear hT hcat1 hcat2 hstr hl1 hfd hf hconv hb1 hown
        go_wp2_with fail
        have hS : Below w'.heap.size w' (wc.alloc (.cells #[.string ⟨#[97, 98, 99, 100, 101, 102, 103, 104, 105]⟩, .string ⟨#[49]⟩, .string ⟨#[48, 97]⟩, .string ⟨#[65, 49, 50, 51, 52, 53, 54, 55, 56]⟩] 9)) := HS.out.alloc HS.out.size _
        have hq : ∀ k x, wrongs[k]? = some x → (wc.alloc (.cells #[.string ⟨#[97, 98, 99, 100, 101, 102, 103, 104, 105]⟩, .string ⟨#[49]⟩, .string ⟨#[48, 97]⟩, .string ⟨#[65, 49, 50, 51, 52, 53, 54, 55, 56]⟩] 9)).cell? ⟨wc.heap.size, k, none⟩ = some (.string ⟨x.toArray⟩) := fun k x hx => by
          have hn := World.news_of_block (heap_alloc_new wc (.cells #[.string ⟨#[97, 98, 99, 100, 101, 102, 103, 104, 105]⟩, .string ⟨#[49]⟩, .string ⟨#[48, 97]⟩, .string ⟨#[65, 49, 50, 51, 52, 53, 54, 55, 56]⟩] 9)) k (.string ⟨x.toArray⟩) (by
            match k, hx with
            | 0, hx => cases hx; rfl
            | 1, hx => cases hx; rfl
            | 2, hx => cases hx; rfl
            | 3, hx => cases hx; rfl
            | k + 4, hx => simp [wrongs] at hx)
          have hadd : (⟨wc.heap.size, 0, none⟩ : Addr).add k = ⟨wc.heap.size, k, none⟩ := by unfold Addr.add; split <;> simp_all
          exact hadd ▸ hn
        have hbk : wc.heap.size < (wc.alloc (.cells #[.string ⟨#[97, 98, 99, 100, 101, 102, 103, 104, 105]⟩, .string ⟨#[49]⟩, .string ⟨#[48, 97]⟩, .string ⟨#[65, 49, 50, 51, 52, 53, 54, 55, 56]⟩] 9)).heap.size := by simp
        generalize wc.alloc (.cells #[.string ⟨#[97, 98, 99, 100, 101, 102, 103, 104, 105]⟩, .string ⟨#[49]⟩, .string ⟨#[48, 97]⟩, .string ⟨#[65, 49, 50, 51, 52, 53, 54, 55, 56]⟩] 9) = S at *
        have HQ := Lib.hid hq
        clear hq
        go_loopw [110] (fun i wr => ∃ k : Nat, i = .int .i64 k ∧ k ≤ 4 ∧ Below S.heap.size S wr) (fun i _ => 4 - (intOf i).toNat)
        case atStart => exact ⟨0, rfl, by omega, Below.refl _ _⟩
        case round =>
          obtain ⟨k, rfl, hk, hbr⟩ := hrel
          by_cases hlt : k < 4
          · obtain ⟨x, hx⟩ : ∃ x, wrongs[k]? = some x := ⟨_, List.getElem?_eq_getElem (by simpa [wrongs] using hlt)⟩
            have hmem : x ∈ wrongs := List.mem_of_getElem? hx
            have hxl : x.length ≤ 9 := wrongs_len x hmem
            have hWx := hW x hmem
            have hname := name_any ⟨x.toArray⟩
            rw [show nameOk (ByteArray.mk x.toArray).data.toList = false from wrongs_name x hmem] at hname
            have HN : Hid (∀ w, Calls Try.prog 11 #[.string ⟨x.toArray⟩] w fun e w' => e = .returned (.bool false) ∧ w' = w) := Lib.hid fun w => hname w (by show x.length ≤ _; unfold maxLen; omega)
            have cq : wr.cell? ⟨wc.heap.size, k, none⟩ = some (.string ⟨x.toArray⟩) := (hbr.cell (p := ⟨wc.heap.size, k, none⟩) hbk).trans (HQ.out k x hx)
            have hxs : (ByteArray.mk x.toArray).size = x.length := rfl
            have hcat1 : ∀ w, (Op.stringOp .add (⟨#[10]⟩ ++ ⟨P.toArray⟩) ⟨x.toArray⟩).run Try.prog w = .ok (.string ((⟨#[10]⟩ ++ ⟨P.toArray⟩) ++ ⟨x.toArray⟩)) w := fun w => run_string_add_sum w _ _ (by rw [cat]; show (#[10] ++ P.toArray).size + x.length ≤ _; simp; omega)
            have hcat2 : ∀ w, (Op.stringOp .add ((⟨#[10]⟩ ++ ⟨P.toArray⟩) ++ ⟨x.toArray⟩) ⟨#[32, 58]⟩).run Try.prog w = .ok (.string (((⟨#[10]⟩ ++ ⟨P.toArray⟩) ++ ⟨x.toArray⟩) ++ ⟨#[32, 58]⟩)) w := fun w => run_string_add_sum w _ _ (by rw [cat, cat]; show (#[10] ++ P.toArray ++ x.toArray).size + 2 ≤ _; simp; omega)
            have hstr : ((⟨#[10]⟩ ++ ⟨P.toArray⟩) ++ ⟨x.toArray⟩) ++ ⟨#[32, 58]⟩ = (⟨([10] ++ (P ++ (x ++ [32, 58]))).toArray⟩ : ByteArray) := by
              rw [cat, cat, cat]; simp
            generalize hX : [10] ++ (P ++ (x ++ [32, 58])) = X at *
            have hXl : X.length ≤ 1000000 := by rw [← hX]; simp; omega
            have e1 : (k : Int) < 4 := by omega
            clear hX hW hname
            go_wp2_with (first
              | (go_at_call 7; refine (toks_two X _ m hXl hWx).mono ?_; rintro e w2 ⟨rfl, hb2⟩)
              | (go_at_call 11; refine (HN.out _).mono ?_; rintro e w3 ⟨rfl, rfl⟩))
            go_roundw
            case rel => exact ⟨k + 1, by go_num, by omega, hbr.trans (hb2.mono hbr.size)⟩
            case measure => simp [intOf]; omega
          · have e1 : ¬ (k : Int) < 4 := by omega
            have n1 := names_any ⟨#[97, 98, 99, 100, 101, 102, 103, 104]⟩ true (by decide +kernel) (by decide)
            have n2 := names_any ⟨#[65, 48]⟩ true (by decide +kernel) (by decide)
            have n3 := names_any ⟨#[]⟩ false (by decide +kernel) (by decide)
            have n4 := names_any ⟨#[97, 45, 98]⟩ false (by decide +kernel) (by decide)
            go_wp2_with (first
              | (go_at_call 11; (first | with_reducible refine (n1 _).mono ?_ | with_reducible refine (n2 _).mono ?_ | with_reducible refine (n3 _).mono ?_ | with_reducible refine (n4 _).mono ?_); rintro e w3 ⟨rfl, rfl⟩)
              | (go_at_call 9; refine (wakes_any _).mono ?_; rintro e w4 ⟨rfl, hb4⟩))
            go_ret
            exact ⟨rfl, (hS.trans (hbr.mono hS.size)).trans (hb4.mono (Nat.le_trans hS.size hbr.size))⟩
  | false =>
    rw [hf, if_neg (by decide)] at hT
    go_enter Try.func4, Try.ntmps4
    go_upto_region 4 with (first
      | (go_at_call 10; refine (within_any n 9 (by decide) (by decide) _).mono ?_; rintro e w' ⟨rfl, rfl⟩; rw [hmn])
      | (go_at_call 7; refine (toks_two L _ m hLl hT).mono ?_; rintro e w1 ⟨rfl, hb1⟩))
    go_cut [10] from 35 to 48 (fun s wx => s = .bool (lett c) ∧ wx = w1)
    case first =>
      go_wp2_with fail
      all_goals
        go_meet
        refine ⟨congrArg Value.bool ?_, rfl⟩
        unfold lett low up
        rw [Bool.eq_iff_iff]
        simp
        try omega
    case rest =>
      obtain ⟨rfl, rfl⟩ := hcut
      go_upto_region 5 with fail
      go_cut [0, 10, 11, 25] from 49 to 69 (fun s0 s10 s s25 wx => s0 = .int .u8 c.toNat ∧ s25 = .int .u8 c.toNat ∧ s10 = .bool (lett c) ∧ s = .bool false ∧ wx = wc)
      case first =>
        cases hL : lett c
        all_goals
          go_wp2_with fail
          all_goals
            go_meet
            refine ⟨congrArg (Value.int .u8) (by omega), congrArg (Value.int .u8) (by omega), by rw [hL], congrArg Value.bool ?_, rfl⟩
            rw [← hf, hfd, hL, Bool.eq_iff_iff]
            first | done | (simp; done) | (simp; omega)
      case rest =>
        obtain ⟨rfl, rfl, rfl, rfl, rfl⟩ := hcut
        have HS : Hid (Below w'.heap.size w' wc) := Lib.hid (((Below.refl w'.heap.size w').alloc (Nat.le_refl _) _).trans (hb1.mono (by simp)))
        clear hT hcat1 hcat2 hstr hl1 hfd hf hconv hb1 
        go_wp2_with fail
        have hS : Below w'.heap.size w' (wc.alloc (.cells #[.string ⟨#[97, 98, 99, 100, 101, 102, 103, 104, 105]⟩, .string ⟨#[49]⟩, .string ⟨#[48, 97]⟩, .string ⟨#[65, 49, 50, 51, 52, 53, 54, 55, 56]⟩] 9)) := HS.out.alloc HS.out.size _
        have hq : ∀ k x, wrongs[k]? = some x → (wc.alloc (.cells #[.string ⟨#[97, 98, 99, 100, 101, 102, 103, 104, 105]⟩, .string ⟨#[49]⟩, .string ⟨#[48, 97]⟩, .string ⟨#[65, 49, 50, 51, 52, 53, 54, 55, 56]⟩] 9)).cell? ⟨wc.heap.size, k, none⟩ = some (.string ⟨x.toArray⟩) := fun k x hx => by
          have hn := World.news_of_block (heap_alloc_new wc (.cells #[.string ⟨#[97, 98, 99, 100, 101, 102, 103, 104, 105]⟩, .string ⟨#[49]⟩, .string ⟨#[48, 97]⟩, .string ⟨#[65, 49, 50, 51, 52, 53, 54, 55, 56]⟩] 9)) k (.string ⟨x.toArray⟩) (by
            match k, hx with
            | 0, hx => cases hx; rfl
            | 1, hx => cases hx; rfl
            | 2, hx => cases hx; rfl
            | 3, hx => cases hx; rfl
            | k + 4, hx => simp [wrongs] at hx)
          have hadd : (⟨wc.heap.size, 0, none⟩ : Addr).add k = ⟨wc.heap.size, k, none⟩ := by unfold Addr.add; split <;> simp_all
          exact hadd ▸ hn
        have hbk : wc.heap.size < (wc.alloc (.cells #[.string ⟨#[97, 98, 99, 100, 101, 102, 103, 104, 105]⟩, .string ⟨#[49]⟩, .string ⟨#[48, 97]⟩, .string ⟨#[65, 49, 50, 51, 52, 53, 54, 55, 56]⟩] 9)).heap.size := by simp
        generalize wc.alloc (.cells #[.string ⟨#[97, 98, 99, 100, 101, 102, 103, 104, 105]⟩, .string ⟨#[49]⟩, .string ⟨#[48, 97]⟩, .string ⟨#[65, 49, 50, 51, 52, 53, 54, 55, 56]⟩] 9) = S at *
        have HQ := Lib.hid hq
        clear hq
        go_loopw [110] (fun i wr => ∃ k : Nat, i = .int .i64 k ∧ k ≤ 4 ∧ Below S.heap.size S wr) (fun i _ => 4 - (intOf i).toNat)
        case atStart => exact ⟨0, rfl, by omega, Below.refl _ _⟩
        case round =>
          obtain ⟨k, rfl, hk, hbr⟩ := hrel
          by_cases hlt : k < 4
          · obtain ⟨x, hx⟩ : ∃ x, wrongs[k]? = some x := ⟨_, List.getElem?_eq_getElem (by simpa [wrongs] using hlt)⟩
            have hmem : x ∈ wrongs := List.mem_of_getElem? hx
            have hxl : x.length ≤ 9 := wrongs_len x hmem
            have hWx := hW x hmem
            have hname := name_any ⟨x.toArray⟩
            rw [show nameOk (ByteArray.mk x.toArray).data.toList = false from wrongs_name x hmem] at hname
            have HN : Hid (∀ w, Calls Try.prog 11 #[.string ⟨x.toArray⟩] w fun e w' => e = .returned (.bool false) ∧ w' = w) := Lib.hid fun w => hname w (by show x.length ≤ _; unfold maxLen; omega)
            have cq : wr.cell? ⟨wc.heap.size, k, none⟩ = some (.string ⟨x.toArray⟩) := (hbr.cell (p := ⟨wc.heap.size, k, none⟩) hbk).trans (HQ.out k x hx)
            have hxs : (ByteArray.mk x.toArray).size = x.length := rfl
            have hcat1 : ∀ w, (Op.stringOp .add (⟨#[10]⟩ ++ ⟨P.toArray⟩) ⟨x.toArray⟩).run Try.prog w = .ok (.string ((⟨#[10]⟩ ++ ⟨P.toArray⟩) ++ ⟨x.toArray⟩)) w := fun w => run_string_add_sum w _ _ (by rw [cat]; show (#[10] ++ P.toArray).size + x.length ≤ _; simp; omega)
            have hcat2 : ∀ w, (Op.stringOp .add ((⟨#[10]⟩ ++ ⟨P.toArray⟩) ++ ⟨x.toArray⟩) ⟨#[32, 58]⟩).run Try.prog w = .ok (.string (((⟨#[10]⟩ ++ ⟨P.toArray⟩) ++ ⟨x.toArray⟩) ++ ⟨#[32, 58]⟩)) w := fun w => run_string_add_sum w _ _ (by rw [cat, cat]; show (#[10] ++ P.toArray ++ x.toArray).size + 2 ≤ _; simp; omega)
            have hstr : ((⟨#[10]⟩ ++ ⟨P.toArray⟩) ++ ⟨x.toArray⟩) ++ ⟨#[32, 58]⟩ = (⟨([10] ++ (P ++ (x ++ [32, 58]))).toArray⟩ : ByteArray) := by
              rw [cat, cat, cat]; simp
            generalize hX : [10] ++ (P ++ (x ++ [32, 58])) = X at *
            have hXl : X.length ≤ 1000000 := by rw [← hX]; simp; omega
            have e1 : (k : Int) < 4 := by omega
            clear hX hW hname
            go_wp2_with (first
              | (go_at_call 7; refine (toks_two X _ m hXl hWx).mono ?_; rintro e w2 ⟨rfl, hb2⟩)
              | (go_at_call 11; refine (HN.out _).mono ?_; rintro e w3 ⟨rfl, rfl⟩))
            go_roundw
            case rel => exact ⟨k + 1, by go_num, by omega, hbr.trans (hb2.mono hbr.size)⟩
            case measure => simp [intOf]; omega
          · have e1 : ¬ (k : Int) < 4 := by omega
            have n1 := names_any ⟨#[97, 98, 99, 100, 101, 102, 103, 104]⟩ true (by decide +kernel) (by decide)
            have n2 := names_any ⟨#[65, 48]⟩ true (by decide +kernel) (by decide)
            have n3 := names_any ⟨#[]⟩ false (by decide +kernel) (by decide)
            have n4 := names_any ⟨#[97, 45, 98]⟩ false (by decide +kernel) (by decide)
            go_wp2_with (first
              | (go_at_call 11; (first | with_reducible refine (n1 _).mono ?_ | with_reducible refine (n2 _).mono ?_ | with_reducible refine (n3 _).mono ?_ | with_reducible refine (n4 _).mono ?_); rintro e w3 ⟨rfl, rfl⟩)
              | (go_at_call 9; refine (wakes_any _).mono ?_; rintro e w4 ⟨rfl, hb4⟩))
            go_ret
            exact ⟨rfl, (hS.trans (hbr.mono hS.size)).trans (hb4.mono (Nat.le_trans hS.size hbr.size))⟩

theorem u8_of {x : Int} (h : (Lit.int .u8 x).wf = true) : 0 ≤ x ∧ x < 256 := by
  simp [Lit.wf, IntKind.min, IntKind.max, IntKind.signed, IntKind.bits] at h
  omega
theorem errors_all (c n : Int) (hc : 0 ≤ c ∧ c < 256) (w : World) : Calls Try.prog 4 #[.int .u8 c, .int .i64 n] w fun e w' => e = .returned (.bool true) ∧ Below w.heap.size w w' := by
  have h := errors_walk (UInt8.ofNat c.toNat) n w
  have e : ((UInt8.ofNat c.toNat).toNat : Int) = c := by rw [UInt8.toNat_ofNat']; omega
  rw [e] at h
  exact h

end Go.Proofs.Ytjllidbggcenkaa
