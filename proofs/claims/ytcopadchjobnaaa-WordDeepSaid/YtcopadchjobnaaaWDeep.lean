/- WordDeep: walked. -/
import Derived.Test.YtcopadchjobnaaaWake7
import Derived.Test.YtcopadchjobnaaaWordC
import Derived.Test.YtcopadchjobnaaaGParse
import Derived.Test.YtcopadchjobnaaaWParts
import Derived.Deep.CutRange
import Derived.Deep.QuietTactic
import Derived.BigQuiet
set_option linter.unusedVariables false
namespace Go.Proofs.Ytcopadchjobnaaa
open Go.RowKit
open Doc

/-- The text, level by level. -/
def byD (k : Nat) : UInt8 := UInt8.ofNat (65 + k)
def lineD (k : Nat) : List UInt8 := [byD k, 58, 32, byD (k + 1), 32, byD (k + 1), 32, 124, 32, byD (k + 1), 32, byD (k + 1), 32, 120, 10]
def deepT : Nat → List UInt8
  | 0 => []
  | i + 1 => deepT i ++ lineD i
def finT (n : Nat) : List UInt8 := deepT n ++ [byD n, 58, 32, 121, 32, 124, 32, 120, 10]
def wordsD (n : Nat) : Wd.Kn := (List.range (n + 1)).map fun i => some (List.replicate (2 ^ (n - i)) 1)
def deepB (n : Nat) : Bool := match parse (finT n) with
  | .ok g => decide (ChkP g) && decide (g.nons.length = n + 1) && decide (Wd.leastF g = wordsD n)
  | .bad _ _ _ => false
theorem deep_ok (n : Nat) (h1 : 1 ≤ n) (h7 : n ≤ 7) : ∃ g, parse (finT n) = .ok g ∧ CheckG g ∧ g.nons.length = n + 1 ∧ Wd.leastF g = wordsD n := by
  have hb : deepB n = true := by
    rcases (show n = 1 ∨ n = 2 ∨ n = 3 ∨ n = 4 ∨ n = 5 ∨ n = 6 ∨ n = 7 by omega) with rfl | rfl | rfl | rfl | rfl | rfl | rfl
    all_goals decide +kernel
  unfold deepB at hb
  cases hp : parse (finT n) with
  | bad a b c => rw [hp] at hb; cases hb
  | ok g =>
    rw [hp] at hb
    simp only [Bool.and_eq_true, decide_eq_true_eq] at hb
    exact ⟨g, rfl, (chk_iff g).1 hb.1.1, hb.1.2, hb.2⟩
theorem deep_len : ∀ n, n ≤ 7 → (deepT n).length ≤ 1000 := by decide +kernel
def oneD (k : Nat) : ByteArray := ⟨#[byD k]⟩
theorem convD (W : World) (b k : Nat) (hk : k ≤ 8) (h : W.cell? ⟨b, 0, none⟩ = some (.int .u8 (65 + (k : Int)))) :
    (convert 86 9 (.slice (some ⟨b, 0, none⟩) 1 1)).run Try.prog W = .ok (.string (oneD k)) W := by
  refine run_convert_bytes_back (P := Try.prog) _ _ _ 5 ⟨b, 0, none⟩ 1 [byD k] (by kernel_rfl) (by kernel_rfl) (by kernel_rfl) fun j hj => ?_
  have hj0 : j = 0 := by simpa using hj
  subst hj0
  refine h.trans ?_
  have : (byD k).toNat = 65 + k := by unfold byD; rw [UInt8.toNat_ofNat']; omega
  simp
  omega
theorem catD (a b : List UInt8) (w : World) (h : a.length + b.length ≤ 1000000) : (Op.stringOp .add ⟨a.toArray⟩ ⟨b.toArray⟩).run Try.prog w = .ok (.string ⟨(a ++ b).toArray⟩) w := by
  rw [run_string_add_sum w _ _ (by show a.length + b.length ≤ _; omega)]
  have e : (⟨a.toArray⟩ : ByteArray) ++ ⟨b.toArray⟩ = ⟨(a ++ b).toArray⟩ := ByteArray.ext (by simp)
  rw [e]
/-- A line, part by part. -/
def dA (k j : Nat) : ByteArray := ⟨((lineD k).take j).toArray⟩
theorem dA_step (k i j : Nat) (x : List UInt8) (hx : (lineD k).take j = (lineD k).take i ++ x) (hl : x.length ≤ 100) (w : World) : (Op.stringOp .add (dA k i) ⟨x.toArray⟩).run Try.prog w = .ok (.string (dA k j)) w := by
  unfold dA
  have hl2 : (lineD k).length = 15 := rfl
  rw [catD _ _ _ (by rw [List.length_take]; omega), hx]
theorem dA_one (k : Nat) (w : World) : (Op.stringOp .add (oneD k) ⟨#[58, 32]⟩).run Try.prog w = .ok (.string (dA k 3)) w := catD [byD k] [58, 32] w (by simp)
theorem dA_end (k : Nat) (h : k ≤ 6) (w : World) : (Op.stringOp .add ⟨(deepT k).toArray⟩ (dA k 15)).run Try.prog w = .ok (.string ⟨(deepT (k + 1)).toArray⟩) w := by
  have := deep_len k (by omega)
  exact catD (deepT k) (lineD k) w (by simp [lineD]; omega)
theorem fin_end (n : Nat) (h : n ≤ 7) (w : World) : (Op.stringOp .add ⟨(deepT n).toArray⟩ (⟨#[byD n, 58, 32, 121, 32, 124, 32, 120, 10]⟩ : ByteArray)).run Try.prog w = .ok (.string ⟨(finT n).toArray⟩) w := by
  have := deep_len n h
  exact catD (deepT n) [byD n, 58, 32, 121, 32, 124, 32, 120, 10] w (by simp; omega)
theorem fin_one (n : Nat) (w : World) : (Op.stringOp .add (oneD n) ⟨#[58, 32, 121, 32, 124, 32, 120, 10]⟩).run Try.prog w = .ok (.string ⟨#[byD n, 58, 32, 121, 32, 124, 32, 120, 10]⟩) w := catD [byD n] [58, 32, 121, 32, 124, 32, 120, 10] w (by simp)

theorem ofInt_natD (n : Nat) : floatOfInt .f64 (n : Int) = Fl.ofNat n := by
  show Ieee.double.nearest (decide ((n : Int) < 0)) (n : Int).natAbs 0 = _
  rw [decide_eq_false (by omega), Int.natAbs_natCast]; rfl
theorem ord_self (x : Nat) (h : x ≤ Fl.inf) : (FloatKind.f64.format.order x x != some .eq) = false := by
  have := Fl.order_le x x h h
  show (Ieee.double.order x x != some .eq) = false
  rw [this, Nat.compare_eq_eq.2 rfl]; rfl
theorem wordsD_known {n j : Nat} (h : j ≤ n) : Wd.known (wordsD n) j = some (List.replicate (2 ^ (n - j)) 1) := by
  unfold Wd.known wordsD
  rw [List.getElem?_map, List.getElem?_range (by omega)]; rfl

set_option maxRecDepth 100000 in
set_option maxHeartbeats 1000000 in
theorem wordDeep_walk (n0 : Int) (w : World) : Calls Try.prog 10 #[.int .i64 n0] w fun e w' => e = .returned (.bool true) ∧ Below w.heap.size w w' := by
  obtain ⟨d, hd, hd7⟩ : ∃ d : Nat, n0 % 7 = d ∧ d < 7 := ⟨(n0 % 7).toNat, by omega, by omega⟩
  have HW := Lib.hid fun W => (within_any n0 7 (by omega) (by omega) W).mono fun e w' ⟨he, hw⟩ => (⟨he.trans (by rw [hd]), hw⟩ : e = Ending.returned (.int .i64 d) ∧ w' = W)
  clear hd
  obtain ⟨n, hn⟩ : ∃ n, n = d + 1 := ⟨_, rfl⟩
  have hn1 : 1 ≤ n := by omega
  have hn7 : n ≤ 7 := by omega
  have e1 : (1 : Int) + (d : Int) = (n : Int) := by omega
  clear hn hd7
  go_enter Try.func10, Try.ntmps10
  go_upto_region 2 with (go_at_call 22; refine (HW.out _).mono ?_; rintro e w7 ⟨rfl, hw7⟩; obtain rfl := hw7.symm)
  go_wp2
  clear HW
  go_loopw [4, 3] (fun i s wr => ∃ k : Nat, k ≤ n ∧ i = .int .i64 k ∧ s = .string ⟨(deepT k).toArray⟩ ∧ Hid (Below w.heap.size w wr)) (fun i _ _ => n - (intOf i).toNat)
  case atStart => exact ⟨0, by omega, rfl, rfl, Lib.hid (Below.refl _ _)⟩
  case round =>
    obtain ⟨k, hk, rfl, rfl, HB⟩ := hrel
    by_cases hlt : k < n
    · have e2 : (k : Int) < n := by omega
      have hk6 : k ≤ 6 := by omega
      have hc0 := fun W b => convD W b k (by omega)
      have hc1 : ∀ (W : World) (b : Nat), W.cell? ⟨b, 0, none⟩ = some (.int .u8 (66 + (k : Int))) → (convert 86 9 (.slice (some ⟨b, 0, none⟩) 1 1)).run Try.prog W = .ok (.string (oneD (k + 1))) W := fun W b h => convD W b (k + 1) (by omega) (by rw [h]; congr 2; push_cast; omega)
      have p1 := fun W => dA_one k W
      have p2 : ∀ W, (Op.stringOp .add (dA k 3) (oneD (k + 1))).run Try.prog W = .ok (.string (dA k 4)) W := fun W => dA_step k 3 4 [byD (k + 1)] rfl (by simp) W
      have p3 : ∀ W, (Op.stringOp .add (dA k 4) ⟨#[32]⟩).run Try.prog W = .ok (.string (dA k 5)) W := fun W => dA_step k 4 5 [32] rfl (by simp) W
      have p4 : ∀ W, (Op.stringOp .add (dA k 5) (oneD (k + 1))).run Try.prog W = .ok (.string (dA k 6)) W := fun W => dA_step k 5 6 [byD (k + 1)] rfl (by simp) W
      have p5 : ∀ W, (Op.stringOp .add (dA k 6) ⟨#[32, 124, 32]⟩).run Try.prog W = .ok (.string (dA k 9)) W := fun W => dA_step k 6 9 [32, 124, 32] rfl (by simp) W
      have p6 : ∀ W, (Op.stringOp .add (dA k 9) (oneD (k + 1))).run Try.prog W = .ok (.string (dA k 10)) W := fun W => dA_step k 9 10 [byD (k + 1)] rfl (by simp) W
      have p7 : ∀ W, (Op.stringOp .add (dA k 10) ⟨#[32]⟩).run Try.prog W = .ok (.string (dA k 11)) W := fun W => dA_step k 10 11 [32] rfl (by simp) W
      have p8 : ∀ W, (Op.stringOp .add (dA k 11) (oneD (k + 1))).run Try.prog W = .ok (.string (dA k 12)) W := fun W => dA_step k 11 12 [byD (k + 1)] rfl (by simp) W
      have p9 : ∀ W, (Op.stringOp .add (dA k 12) ⟨#[32, 120, 10]⟩).run Try.prog W = .ok (.string (dA k 15)) W := fun W => dA_step k 12 15 [32, 120, 10] rfl (by simp) W
      have p10 := fun W => dA_end k hk6 W
      have HBO := Lib.hid fun o1 o2 => ((HB.out.alloc HB.out.size o1).alloc (by simp; have := HB.out.size; omega) o2).drew
      go_upto_region 6 with fail
      go_region
      all_goals
        go_wp2
        exact ⟨⟨k + 1, by omega, by go_num, rfl, Lib.hid (HBO.out _ _)⟩, by simp [intOf]; omega⟩
    · obtain rfl : n = k := by omega
      have e2 : ¬ (n : Int) < n := by omega
      have hc0 := fun W b => convD W b n (by omega)
      have p1 := fun W => fin_one n W
      have p2 := fun W => fin_end n hn7 W
      obtain ⟨g, hp, hck, hgn, hlf⟩ := deep_ok n hn1 hn7
      have hlen := deep_len n hn7
      have HPA := Lib.hid fun W => rparse_ok ⟨(finT n).toArray⟩ g W (by show (finT n).length ≤ 400000; simp [finT]; omega) (by simpa using hp)
      have HB2 := Lib.hid (HB.out.alloc HB.out.size (.cells #[.int .u8 (65 + (n : Int))] 5))
      have HCK := Lib.hid hck
      have HLF := Lib.hid hlf
      have HGN := Lib.hid hgn
      clear hp hck hlf hgn hlen
      go_upto_region 10 with (go_at_call 58; refine (HPA.out _).mono ?_; rintro e w2 ⟨v, rfl, hb2, hg2⟩; obtain ⟨at_, an, ap, ct, cn, cp, ls, rfl, hpl, _⟩ := hg2.at_)
      have hb2 := HB2.out.trans (hb2.mono HB2.out.size)
      have hgr := hg2.at_
      have hbS : Below w2.heap.size w2 (w2.alloc (.cells #[.slice at_ g.terms.length ct, .slice an g.nons.length cn, .slice ap ls.length cp] 28)) := (Below.refl _ _).alloc (Nat.le_refl _) _
      have q0 := heap_alloc_new w2 (.cells #[.slice at_ g.terms.length ct, .slice an g.nons.length cn, .slice ap ls.length cp] 28)
      have HG := Lib.hid (hgr.below hbS)
      have HBA := Lib.hid (hb2.trans (hbS.mono hb2.size))
      have HQ0 := Lib.hid q0
      clear hb2 hg2 hgr hbS q0 HPA HB2 HB
      generalize w2.alloc (.cells #[.slice at_ g.terms.length ct, .slice an g.nons.length cn, .slice ap ls.length cp] 28) = S at *
      generalize w2.heap.size = B1 at *
      have HD : Hid (∀ W, Below S.heap.size S W → (W.cell? ⟨B1, 0, none⟩ = some (.slice at_ g.terms.length ct) ∧ W.cell? ⟨B1, 1, none⟩ = some (.slice an g.nons.length cn) ∧ W.cell? ⟨B1, 2, none⟩ = some (.slice ap ls.length cp)) ∧ B1 < W.heap.size) := Lib.hid fun W hW =>
        have h := (hW.block B1 (heap_lt HQ0.out)).trans HQ0.out
        ⟨⟨(blk_cell (i := 0) (u := .slice at_ g.terms.length ct) h rfl).1, (blk_cell (i := 1) (u := .slice an g.nons.length cn) h rfl).1, (blk_cell (i := 2) (u := .slice ap ls.length cp) h rfl).1⟩, heap_lt h⟩
      have HLE := Lib.hid ((least_any _ g S HG.out HCK.out).mono fun e w' h => (by
        rw [HGN.out, HLF.out] at h
        exact h : Below S.heap.size S w' ∧ ∃ b rs, e = Ending.returned (.tuple #[.slice (some ⟨b, 0, none⟩) (n + 1) (n + 1), .int .i64 0]) ∧ kn rs = wordsD n ∧ rs.length = n + 1 ∧ OutAt w' b rs ∧ S.heap.size ≤ b))
      have HCO := Lib.hid fun W (hW : Below S.heap.size S W) => (costs_any _ g W (HG.out.below hW) HCK.out).mono fun e w' h => (by
        rw [HGN.out, HLF.out] at h
        exact h : Below W.heap.size W w' ∧ ∃ B, e = Ending.returned (.tuple #[.slice (some ⟨B, 0, none⟩) (n + 1) (n + 1), .int .i64 0]) ∧ FAt w' B ((wordsD n).map (Option.map List.length)) ∧ W.heap.size ≤ B)
      obtain ⟨⟨d0, d1, d2⟩, d3⟩ := HD.out S (Below.refl _ _)
      go_upto_region 11 with (go_at_call 59; refine HLE.out.mono ?_; rintro e w3 ⟨hb3, b, rs, rfl, hkn, hrl, hout, hbb⟩)
      clear d0 d1 d2 d3 HLE
      obtain ⟨⟨d0, d1, d2⟩, d3⟩ := HD.out w3 hb3
      have HCO3 := Lib.hid (HCO.out w3 hb3)
      clear HCO
      go_upto_region 12 with (go_at_call 60; refine HCO3.out.mono ?_; rintro e w4 ⟨hb4, Cb, rfl, hfat, hCb⟩)
      clear d0 d1 d2 d3 HCO3
      have hb34 := hb3.trans (hb4.mono hb3.size)
      have HOUT := Lib.hid (hout.below hb4)
      have HFAT := Lib.hid hfat
      have HKN := Lib.hid hkn
      have HBW := Lib.hid (HBA.out.trans (hb34.mono HBA.out.size))
      clear hout hfat hkn hb3 hb4 hb34 HQ0 HD HG HBA hbb hCb p1 p2 hc0
      have hl1 : ((n + 1 : Nat) : Int) = (n : Int) + 1 := by push_cast; rfl
      go_wp2
      go_loopw [104] (fun i wx => ∃ j q : Nat, j ≤ n + 1 ∧ i = .int .i64 j ∧ wx = w4.drewN q) (fun i _ => n + 1 - (intOf i).toNat)
      case atStart => exact ⟨0, 0, by omega, rfl, rfl⟩
      case round =>
        rename World => wx
        obtain ⟨j, q, hj, rfl, rfl⟩ := hrel
        by_cases hjl : j < n + 1
        · have e3 : (j : Int) < ((n + 1 : Nat) : Int) := by omega
          obtain ⟨m, hm⟩ : ∃ m, n = j + m := ⟨n - j, by omega⟩
          have hm7 : m ≤ 7 := by omega
          have hsub : (n : Int) - (j : Int) = (m : Int) := by omega
          obtain ⟨p, hp⟩ : ∃ p, rs[j]? = some p := ⟨_, List.getElem?_eq_getElem (by omega)⟩
          obtain ⟨g1, g2, g3⟩ := rs_at HKN.out HOUT.out.z hp
          have hkw := wordsD_known (n := n) (j := j) (by omega)
          rw [show n - j = m by omega] at hkw
          have hpw : p.word = List.replicate (2 ^ m) 1 := by rw [← g2, hkw]; rfl
          have hpm := List.mem_of_getElem? hp
          have x0 := (blk_cell (i := j) (u := .slice p.addr p.word.length p.cap) HOUT.out.q (by rw [List.getElem?_toArray, List.getElem?_map, hp]; rfl)).1
          have x2 := heap_lt HOUT.out.q
          have hpc := HOUT.out.r p hpm
          have hLn : j < ((wordsD n).map (Option.map List.length)).length := by rw [List.length_map]; simp [wordsD]; omega
          have y0 := (blk_cell (i := j) (u := .float .f64 (Wd.fc (Wd.co ((wordsD n).map (Option.map List.length)) j))) HFAT.out (by rw [List.getElem?_toArray]; exact flC_at hLn)).1
          have y2 := heap_lt HFAT.out
          have hco : Wd.co ((wordsD n).map (Option.map List.length)) j = some (2 ^ m) := by rw [co_map, hkw]; simp
          rw [hco] at y0
          replace y0 : w4.cell? ⟨Cb, j, none⟩ = some (.float .f64 (Fl.ofNat (2 ^ m))) := y0
          obtain ⟨pw, pk, pa, pc⟩ := p
          simp only at x0 hpw hpc
          subst hpw
          rw [List.length_replicate] at x0
          have HPC := Lib.hid hpc
          have HNM := Lib.hid hm
          clear hp g1 g2 g3 hkw hpm hpc hLn hco hm
          rcases (show m = 0 ∨ m = 1 ∨ m = 2 ∨ m = 3 ∨ m = 4 ∨ m = 5 ∨ m = 6 ∨ m = 7 by omega) with rfl | rfl | rfl | rfl | rfl | rfl | rfl | rfl
          · have hsub : (n : Int) - (j : Int) = 0 := by omega
            replace x0 : w4.cell? ⟨b, j, none⟩ = some (.slice pa 1 pc) := x0
            replace y0 : w4.cell? ⟨Cb, j, none⟩ = some (.float .f64 (Fl.ofNat 1)) := y0
            replace HPC : Hid (Cells w4 pa (nums (List.replicate 1 1))) := HPC
            have hfo : floatOfInt .f64 1 = Fl.ofNat 1 := ofInt_natD 1
            have hord := ord_self (Fl.ofNat 1) (by rw [Fl.ofNat_R]; exact Fl.R_le _)
            generalize Fl.ofNat 1 = zc at *
            go_upto_region 18 with fail
            go_quiet (fail)
            go_wp2
            go_loopw [136] (fun i wz => ∃ t q2 : Nat, t ≤ 1 ∧ i = .int .i64 t ∧ wz = w4.drewN q2) (fun i _ => 1 - (intOf i).toNat)
            case atStart => exact ⟨0, _, by omega, rfl, by first | rfl | simp⟩
            case round =>
              rename World => wz
              obtain ⟨t, q2, ht, rfl, rfl⟩ := hrel
              by_cases htl : t < 1
              · obtain ⟨b5, o5, rfl, hb5, hc5⟩ := HPC.out.get (by simp [nums])
                have u0 := hc5 t (.int .i64 1) (by unfold nums; rw [List.getElem?_map, List.getElem?_replicate, if_pos htl]; rfl)
                have e6 : (t : Int) < 1 := by omega
                clear hc5
                go_wp2
                exact ⟨⟨t + 1, q2, by omega, by go_num, rfl⟩, by simp [intOf]; omega⟩
              · have e6 : ¬ (t : Int) < 1 := by omega
                go_wp2
                exact ⟨⟨j + 1, q2, by omega, by go_num, rfl⟩, by simp [intOf]; omega⟩
          · have hsub : (n : Int) - (j : Int) = 1 := by omega
            replace x0 : w4.cell? ⟨b, j, none⟩ = some (.slice pa 2 pc) := x0
            replace y0 : w4.cell? ⟨Cb, j, none⟩ = some (.float .f64 (Fl.ofNat 2)) := y0
            replace HPC : Hid (Cells w4 pa (nums (List.replicate 2 1))) := HPC
            have hfo : floatOfInt .f64 2 = Fl.ofNat 2 := ofInt_natD 2
            have hord := ord_self (Fl.ofNat 2) (by rw [Fl.ofNat_R]; exact Fl.R_le _)
            generalize Fl.ofNat 2 = zc at *
            go_upto_region 18 with fail
            go_quiet (fail)
            go_wp2
            go_loopw [136] (fun i wz => ∃ t q2 : Nat, t ≤ 2 ∧ i = .int .i64 t ∧ wz = w4.drewN q2) (fun i _ => 2 - (intOf i).toNat)
            case atStart => exact ⟨0, _, by omega, rfl, by first | rfl | simp⟩
            case round =>
              rename World => wz
              obtain ⟨t, q2, ht, rfl, rfl⟩ := hrel
              by_cases htl : t < 2
              · obtain ⟨b5, o5, rfl, hb5, hc5⟩ := HPC.out.get (by simp [nums])
                have u0 := hc5 t (.int .i64 1) (by unfold nums; rw [List.getElem?_map, List.getElem?_replicate, if_pos htl]; rfl)
                have e6 : (t : Int) < 2 := by omega
                clear hc5
                go_wp2
                exact ⟨⟨t + 1, q2, by omega, by go_num, rfl⟩, by simp [intOf]; omega⟩
              · have e6 : ¬ (t : Int) < 2 := by omega
                go_wp2
                exact ⟨⟨j + 1, q2, by omega, by go_num, rfl⟩, by simp [intOf]; omega⟩
          · have hsub : (n : Int) - (j : Int) = 2 := by omega
            replace x0 : w4.cell? ⟨b, j, none⟩ = some (.slice pa 4 pc) := x0
            replace y0 : w4.cell? ⟨Cb, j, none⟩ = some (.float .f64 (Fl.ofNat 4)) := y0
            replace HPC : Hid (Cells w4 pa (nums (List.replicate 4 1))) := HPC
            have hfo : floatOfInt .f64 4 = Fl.ofNat 4 := ofInt_natD 4
            have hord := ord_self (Fl.ofNat 4) (by rw [Fl.ofNat_R]; exact Fl.R_le _)
            generalize Fl.ofNat 4 = zc at *
            go_upto_region 18 with fail
            go_quiet (fail)
            go_wp2
            go_loopw [136] (fun i wz => ∃ t q2 : Nat, t ≤ 4 ∧ i = .int .i64 t ∧ wz = w4.drewN q2) (fun i _ => 4 - (intOf i).toNat)
            case atStart => exact ⟨0, _, by omega, rfl, by first | rfl | simp⟩
            case round =>
              rename World => wz
              obtain ⟨t, q2, ht, rfl, rfl⟩ := hrel
              by_cases htl : t < 4
              · obtain ⟨b5, o5, rfl, hb5, hc5⟩ := HPC.out.get (by simp [nums])
                have u0 := hc5 t (.int .i64 1) (by unfold nums; rw [List.getElem?_map, List.getElem?_replicate, if_pos htl]; rfl)
                have e6 : (t : Int) < 4 := by omega
                clear hc5
                go_wp2
                exact ⟨⟨t + 1, q2, by omega, by go_num, rfl⟩, by simp [intOf]; omega⟩
              · have e6 : ¬ (t : Int) < 4 := by omega
                go_wp2
                exact ⟨⟨j + 1, q2, by omega, by go_num, rfl⟩, by simp [intOf]; omega⟩
          · have hsub : (n : Int) - (j : Int) = 3 := by omega
            replace x0 : w4.cell? ⟨b, j, none⟩ = some (.slice pa 8 pc) := x0
            replace y0 : w4.cell? ⟨Cb, j, none⟩ = some (.float .f64 (Fl.ofNat 8)) := y0
            replace HPC : Hid (Cells w4 pa (nums (List.replicate 8 1))) := HPC
            have hfo : floatOfInt .f64 8 = Fl.ofNat 8 := ofInt_natD 8
            have hord := ord_self (Fl.ofNat 8) (by rw [Fl.ofNat_R]; exact Fl.R_le _)
            generalize Fl.ofNat 8 = zc at *
            go_upto_region 18 with fail
            go_quiet (fail)
            go_wp2
            go_loopw [136] (fun i wz => ∃ t q2 : Nat, t ≤ 8 ∧ i = .int .i64 t ∧ wz = w4.drewN q2) (fun i _ => 8 - (intOf i).toNat)
            case atStart => exact ⟨0, _, by omega, rfl, by first | rfl | simp⟩
            case round =>
              rename World => wz
              obtain ⟨t, q2, ht, rfl, rfl⟩ := hrel
              by_cases htl : t < 8
              · obtain ⟨b5, o5, rfl, hb5, hc5⟩ := HPC.out.get (by simp [nums])
                have u0 := hc5 t (.int .i64 1) (by unfold nums; rw [List.getElem?_map, List.getElem?_replicate, if_pos htl]; rfl)
                have e6 : (t : Int) < 8 := by omega
                clear hc5
                go_wp2
                exact ⟨⟨t + 1, q2, by omega, by go_num, rfl⟩, by simp [intOf]; omega⟩
              · have e6 : ¬ (t : Int) < 8 := by omega
                go_wp2
                exact ⟨⟨j + 1, q2, by omega, by go_num, rfl⟩, by simp [intOf]; omega⟩
          · have hsub : (n : Int) - (j : Int) = 4 := by omega
            replace x0 : w4.cell? ⟨b, j, none⟩ = some (.slice pa 16 pc) := x0
            replace y0 : w4.cell? ⟨Cb, j, none⟩ = some (.float .f64 (Fl.ofNat 16)) := y0
            replace HPC : Hid (Cells w4 pa (nums (List.replicate 16 1))) := HPC
            have hfo : floatOfInt .f64 16 = Fl.ofNat 16 := ofInt_natD 16
            have hord := ord_self (Fl.ofNat 16) (by rw [Fl.ofNat_R]; exact Fl.R_le _)
            generalize Fl.ofNat 16 = zc at *
            go_upto_region 18 with fail
            go_quiet (fail)
            go_wp2
            go_loopw [136] (fun i wz => ∃ t q2 : Nat, t ≤ 16 ∧ i = .int .i64 t ∧ wz = w4.drewN q2) (fun i _ => 16 - (intOf i).toNat)
            case atStart => exact ⟨0, _, by omega, rfl, by first | rfl | simp⟩
            case round =>
              rename World => wz
              obtain ⟨t, q2, ht, rfl, rfl⟩ := hrel
              by_cases htl : t < 16
              · obtain ⟨b5, o5, rfl, hb5, hc5⟩ := HPC.out.get (by simp [nums])
                have u0 := hc5 t (.int .i64 1) (by unfold nums; rw [List.getElem?_map, List.getElem?_replicate, if_pos htl]; rfl)
                have e6 : (t : Int) < 16 := by omega
                clear hc5
                go_wp2
                exact ⟨⟨t + 1, q2, by omega, by go_num, rfl⟩, by simp [intOf]; omega⟩
              · have e6 : ¬ (t : Int) < 16 := by omega
                go_wp2
                exact ⟨⟨j + 1, q2, by omega, by go_num, rfl⟩, by simp [intOf]; omega⟩
          · have hsub : (n : Int) - (j : Int) = 5 := by omega
            replace x0 : w4.cell? ⟨b, j, none⟩ = some (.slice pa 32 pc) := x0
            replace y0 : w4.cell? ⟨Cb, j, none⟩ = some (.float .f64 (Fl.ofNat 32)) := y0
            replace HPC : Hid (Cells w4 pa (nums (List.replicate 32 1))) := HPC
            have hfo : floatOfInt .f64 32 = Fl.ofNat 32 := ofInt_natD 32
            have hord := ord_self (Fl.ofNat 32) (by rw [Fl.ofNat_R]; exact Fl.R_le _)
            generalize Fl.ofNat 32 = zc at *
            go_upto_region 18 with fail
            go_quiet (fail)
            go_wp2
            go_loopw [136] (fun i wz => ∃ t q2 : Nat, t ≤ 32 ∧ i = .int .i64 t ∧ wz = w4.drewN q2) (fun i _ => 32 - (intOf i).toNat)
            case atStart => exact ⟨0, _, by omega, rfl, by first | rfl | simp⟩
            case round =>
              rename World => wz
              obtain ⟨t, q2, ht, rfl, rfl⟩ := hrel
              by_cases htl : t < 32
              · obtain ⟨b5, o5, rfl, hb5, hc5⟩ := HPC.out.get (by simp [nums])
                have u0 := hc5 t (.int .i64 1) (by unfold nums; rw [List.getElem?_map, List.getElem?_replicate, if_pos htl]; rfl)
                have e6 : (t : Int) < 32 := by omega
                clear hc5
                go_wp2
                exact ⟨⟨t + 1, q2, by omega, by go_num, rfl⟩, by simp [intOf]; omega⟩
              · have e6 : ¬ (t : Int) < 32 := by omega
                go_wp2
                exact ⟨⟨j + 1, q2, by omega, by go_num, rfl⟩, by simp [intOf]; omega⟩
          · have hsub : (n : Int) - (j : Int) = 6 := by omega
            replace x0 : w4.cell? ⟨b, j, none⟩ = some (.slice pa 64 pc) := x0
            replace y0 : w4.cell? ⟨Cb, j, none⟩ = some (.float .f64 (Fl.ofNat 64)) := y0
            replace HPC : Hid (Cells w4 pa (nums (List.replicate 64 1))) := HPC
            have hfo : floatOfInt .f64 64 = Fl.ofNat 64 := ofInt_natD 64
            have hord := ord_self (Fl.ofNat 64) (by rw [Fl.ofNat_R]; exact Fl.R_le _)
            generalize Fl.ofNat 64 = zc at *
            go_upto_region 18 with fail
            go_quiet (fail)
            go_wp2
            go_loopw [136] (fun i wz => ∃ t q2 : Nat, t ≤ 64 ∧ i = .int .i64 t ∧ wz = w4.drewN q2) (fun i _ => 64 - (intOf i).toNat)
            case atStart => exact ⟨0, _, by omega, rfl, by first | rfl | simp⟩
            case round =>
              rename World => wz
              obtain ⟨t, q2, ht, rfl, rfl⟩ := hrel
              by_cases htl : t < 64
              · obtain ⟨b5, o5, rfl, hb5, hc5⟩ := HPC.out.get (by simp [nums])
                have u0 := hc5 t (.int .i64 1) (by unfold nums; rw [List.getElem?_map, List.getElem?_replicate, if_pos htl]; rfl)
                have e6 : (t : Int) < 64 := by omega
                clear hc5
                go_wp2
                exact ⟨⟨t + 1, q2, by omega, by go_num, rfl⟩, by simp [intOf]; omega⟩
              · have e6 : ¬ (t : Int) < 64 := by omega
                go_wp2
                exact ⟨⟨j + 1, q2, by omega, by go_num, rfl⟩, by simp [intOf]; omega⟩
          · have hsub : (n : Int) - (j : Int) = 7 := by omega
            replace x0 : w4.cell? ⟨b, j, none⟩ = some (.slice pa 128 pc) := x0
            replace y0 : w4.cell? ⟨Cb, j, none⟩ = some (.float .f64 (Fl.ofNat 128)) := y0
            replace HPC : Hid (Cells w4 pa (nums (List.replicate 128 1))) := HPC
            have hfo : floatOfInt .f64 128 = Fl.ofNat 128 := ofInt_natD 128
            have hord := ord_self (Fl.ofNat 128) (by rw [Fl.ofNat_R]; exact Fl.R_le _)
            generalize Fl.ofNat 128 = zc at *
            go_upto_region 18 with fail
            go_quiet (fail)
            go_wp2
            go_loopw [136] (fun i wz => ∃ t q2 : Nat, t ≤ 128 ∧ i = .int .i64 t ∧ wz = w4.drewN q2) (fun i _ => 128 - (intOf i).toNat)
            case atStart => exact ⟨0, _, by omega, rfl, by first | rfl | simp⟩
            case round =>
              rename World => wz
              obtain ⟨t, q2, ht, rfl, rfl⟩ := hrel
              by_cases htl : t < 128
              · obtain ⟨b5, o5, rfl, hb5, hc5⟩ := HPC.out.get (by simp [nums])
                have u0 := hc5 t (.int .i64 1) (by unfold nums; rw [List.getElem?_map, List.getElem?_replicate, if_pos htl]; rfl)
                have e6 : (t : Int) < 128 := by omega
                clear hc5
                go_wp2
                exact ⟨⟨t + 1, q2, by omega, by go_num, rfl⟩, by simp [intOf]; omega⟩
              · have e6 : ¬ (t : Int) < 128 := by omega
                go_wp2
                exact ⟨⟨j + 1, q2, by omega, by go_num, rfl⟩, by simp [intOf]; omega⟩
        · have e3 : ¬ (j : Int) < ((n + 1 : Nat) : Int) := by omega
          have HWK := Lib.hid (wakes7_any (w4.drewN q))
          go_wp2_with (go_at_call 62; refine HWK.out.mono ?_; rintro e w9 ⟨rfl, hb9⟩)
          go_ret
          have hx := below_drews HBW.out q
          exact ⟨rfl, hx.trans (hb9.mono hx.size)⟩

end Go.Proofs.Ytcopadchjobnaaa
