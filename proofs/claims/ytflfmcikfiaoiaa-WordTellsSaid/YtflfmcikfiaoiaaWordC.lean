/- word: Costs: walked. -/
import Derived.Test.YtflfmcikfiaoiaaWordP
import Derived.Laws.CopyOwn
set_option linter.unusedVariables false
namespace Go.Proofs.Ytflfmcikfiaoiaa
open Go.RowKit
open Doc

set_option maxHeartbeats 2000000 in
theorem mul64_any (n : Nat) (hn : n ≤ 8) (w : World) : Calls Try.prog 138 #[.int .u64 1, .int .u64 n] w fun e w' => e = .returned (.tuple #[.int .u64 0, .int .u64 n]) ∧ w' = w := by
  rcases (show n = 0 ∨ n = 1 ∨ n = 2 ∨ n = 3 ∨ n = 4 ∨ n = 5 ∨ n = 6 ∨ n = 7 ∨ n = 8 by omega) with rfl | rfl | rfl | rfl | rfl | rfl | rfl | rfl | rfl
  all_goals
    go_enter Try.func138, Try.ntmps138
    go_wp2
    go_ret2
    exact ⟨rfl, rfl⟩
theorem mul_any (n : Nat) (hn : n ≤ 8) (w : World) : Calls Try.prog 108 #[.int .u64 1, .int .u64 n] w fun e w' => e = .returned (.tuple #[.int .u64 0, .int .u64 n]) ∧ w' = w := by
  have HM := Lib.hid (mul64_any n hn w)
  go_enter Try.func108, Try.ntmps108
  go_wp2_with (go_at_call 138; refine HM.out.mono ?_; rintro e w2 ⟨rfl, hw2⟩; obtain rfl := hw2.symm)
  go_ret2
  exact ⟨rfl, rfl⟩
theorem make_floats (n : Nat) (hn : n ≤ 1000) (w : World) : (Instr.makeSlice 62 (.int .i64 n) (.int .i64 n)).run Try.prog w = .ok (.slice (some ⟨w.heap.size, 0, none⟩) n n) (w.alloc (.cells (List.replicate n (Value.float .f64 0)).toArray 67)) := by
  obtain ⟨i, hi, hz, h1, h2⟩ := info_of infoF
  have hr := run_make (P := Try.prog) w 62 67 i _ Try.underlying62 hi hz .i64 .i64 n n (by omega) (Int.le_refl _) (by rw [h2]; omega) (by omega)
  have e : madeCells (Value.cells (.float .f64 0)) (n * 1) = (List.replicate n (Value.float .f64 0)).toArray := by
    apply Array.ext'
    rw [show Value.cells (.float .f64 0) = #[.float .f64 0] from rfl, Nat.mul_one, toList_madeCells_one]
  rw [Int.toNat_natCast, h1, e] at hr
  exact hr
/-- So many of one, then so many of another one. -/
def two (m n : Nat) (x : Nat) : List Value := List.replicate m (Value.float .f64 x) ++ List.replicate (n - m) (Value.float .f64 0)
theorem two_len {m n x : Nat} (h : m ≤ n) : (two m n x).length = n := by simp [two]; omega
theorem two_at {m n x j : Nat} (h : j < m) : (two m n x)[j]? = some (.float .f64 x) := by
  unfold two
  rw [List.getElem?_append_left (by simpa using h), List.getElem?_replicate, if_pos h]
theorem two_more {m n x c : Nat} (h : m + c ≤ n) : splice (two m n x) m (List.replicate c (Value.float .f64 x)) = two (m + c) n x := by
  unfold splice two
  have e1 : (List.replicate m (Value.float .f64 x) ++ List.replicate (n - m) (Value.float .f64 0)).take m = List.replicate m (Value.float .f64 x) := by
    rw [List.take_append_of_le_length (by simp)]; simp
  have e2 : (List.replicate m (Value.float .f64 x) ++ List.replicate (n - m) (Value.float .f64 0)).drop (m + (List.replicate c (Value.float .f64 x)).length) = List.replicate (n - (m + c)) (Value.float .f64 0) := by
    rw [List.drop_append]
    simp
    omega
  rw [e1, e2, ← List.append_assoc, List.replicate_append_replicate]

set_option maxRecDepth 100000 in
set_option maxHeartbeats 1000000 in
theorem repeat_any (b n x : Nat) (h1 : 1 ≤ n) (hn : n ≤ 8) (w : World) (hc : w.cell? ⟨b, 0, none⟩ = some (.float .f64 x)) (hb : b < w.heap.size) :
    Calls Try.prog 77 #[.slice (some ⟨b, 0, none⟩) 1 1, .int .i64 n] w fun e w' => ∃ g, e = .returned (.slice (some ⟨g, 0, none⟩) n n) ∧ w'.heap[g]? = some (.cells (List.replicate n (Value.float .f64 x)).toArray 67) ∧ w.heap.size ≤ g ∧ Below w.heap.size w w' := by
  have HM := Lib.hid (mul_any n hn w)
  have hmk := fun W => make_floats n (by omega) W
  have hn0 : ¬ (n : Int) < 0 := by omega
  have hsz : (Try.prog.info? 67).map (·.size) = some 1 := by kernel_rfl
  go_enter Try.func77, Try.ntmps77
  go_upto_region 7 with (go_at_call 108; refine HM.out.mono ?_; rintro e w2 ⟨rfl, hw2⟩; obtain rfl := hw2.symm)
  have HQ0 : Hid ((w.alloc (.cells (List.replicate n (Value.float .f64 0)).toArray 67)).heap[w.heap.size]? = some (.cells (two 0 n x).toArray 67)) := Lib.hid (by rw [heap_alloc_new]; rfl)
  have HBA := Lib.hid ((Below.refl w.heap.size w).alloc (Nat.le_refl _) (.cells (List.replicate n (Value.float .f64 0)).toArray 67))
  have HCB := Lib.hid ((HBA.out.cell (p := ⟨b, 0, none⟩) hb).trans hc)
  clear hmk HM hc hn0
  generalize hS1 : w.alloc (.cells (List.replicate n (Value.float .f64 0)).toArray 67) = S1 at *
  simp only [← List.toArray_replicate, hS1] at *
  have HSRC : Hid (∀ (j : Nat) (v : Value), [Value.float .f64 x][j]? = some v → S1.cell? ((⟨b, 0, none⟩ : Addr).add j) = some v) := Lib.hid fun j v hj => by
    match j with
    | 0 => cases hj; exact HCB.out
    | j + 1 => simp at hj
  have hmin : ([Value.float .f64 x] : List Value).length = Nat.min 1 n := by show 1 = min 1 n; omega
  have hfit : 0 + ([Value.float .f64 x] : List Value).length ≤ (two 0 n x).length := by rw [two_len (by omega)]; simp; omega
  have hone : ∀ v ∈ [Value.float .f64 x], v.oneCell' = true := by simp [Value.oneCell']
  have HMN := Lib.hid hmin
  have HFT := Lib.hid hfit
  have HON := Lib.hid hone
  clear hmin hfit hone
  go_upto_region 8 with (with_reducible refine wpList_copy_splice rfl (.tmp 31) (.tmp 32) 62 62 rfl 67 Try.underlying62 hsz _ _ n n 1 1 rfl rfl w.heap.size 0 (two 0 n x) 67 HQ0.out [.float .f64 x] HMN.out (fun _ => ⟨rfl, _, rfl, HSRC.out⟩) HFT.out HON.out w.heap.size w HBA.out (Nat.le_refl _) ?_; intro w3 HG3 hb3)
  have HQ3 : Hid (w3.heap[w.heap.size]? = some (.cells (two 1 n x).toArray 67)) := Lib.hid (by
    rw [HG3.out, show [Value.float .f64 x] = List.replicate 1 (Value.float .f64 x) from rfl, two_more (by omega)])
  have HB3 := Lib.hid hb3
  clear HG3 hb3 HQ0 HBA HCB HSRC HMN HFT HON
  go_wp2
  go_loopw [8] (fun v wr => ∃ m : Nat, 1 ≤ m ∧ m ≤ n ∧ v = .int .i64 m ∧ Hid (wr.heap[w.heap.size]? = some (.cells (two m n x).toArray 67)) ∧ Hid (Below w.heap.size w wr)) (fun v _ => n - (intOf v).toNat)
  case atStart => exact ⟨1, by omega, h1, rfl, HQ3, HB3⟩
  case round =>
    obtain ⟨m, hm1, hmn, rfl, HQ, HB⟩ := hrel
    by_cases hlt : m < n
    · have e1 : (m : Int) < n := by omega
      obtain ⟨c, hc⟩ : ∃ c, c = min m (n - m) := ⟨_, rfl⟩
      have HMN := Lib.hid (show (List.replicate c (Value.float .f64 x)).length = Nat.min m (n - m) by rw [List.length_replicate]; exact hc)
      have HSRC : Hid (∀ (W : World), W.heap = wr.heap → ∀ (j : Nat) (v : Value), (List.replicate c (Value.float .f64 x))[j]? = some v → W.cell? ((⟨w.heap.size, 0, none⟩ : Addr).add j) = some v) := Lib.hid fun W hW j v hj => by
        rw [List.getElem?_replicate] at hj
        split at hj
        · rename_i hjc
          cases hj
          have e : (⟨w.heap.size, 0, none⟩ : Addr).add j = ⟨w.heap.size, j, none⟩ := by unfold Addr.add; split <;> simp_all
          rw [e]
          have := (blk_cell (i := j) (u := .float .f64 x) HQ.out (by simpa using two_at (by omega))).1
          exact (World.cell?_of_block (w := wr) (by rw [hW])).trans this
        · cases hj
      have HFT := Lib.hid (show m + (List.replicate c (Value.float .f64 x)).length ≤ (two m n x).length by rw [two_len hmn, List.length_replicate]; omega)
      have HON := Lib.hid (show ∀ v ∈ List.replicate c (Value.float .f64 x), v.oneCell' = true from fun v hv => by rw [List.eq_of_mem_replicate hv]; rfl)
      have hc1 : 1 ≤ c := by omega
      have hnm : ¬ n = m := by omega
      have hnm2 : (n = m) = False := by simp; omega
      have hc2 : m + c ≤ n := by omega
      have lw := heap_lt HQ.out
      have HMORE := Lib.hid (two_more (x := x) hc2)
      obtain ⟨W4, hcp, HQ4, HB4⟩ : ∃ W4, (Builtin.copy_ #[62, 62] 3 #[.slice (some ⟨w.heap.size, m, none⟩) (n - m) (n - m), .slice (some ⟨w.heap.size, 0, none⟩) m n]).run Try.prog wr.drew = .ok (.int .i64 c) W4 ∧ Hid (W4.heap[w.heap.size]? = some (.cells (two (m + c) n x).toArray 67)) ∧ Hid (Below w.heap.size w W4) := by
        have hr := run_copy_row (P := Try.prog) wr.drew 62 62 3 67 w.heap.size m (n - m) (n - m) ⟨w.heap.size, 0, none⟩ m n (two m n x).toArray 67 (List.replicate c (Value.float .f64 x)) Try.underlying62 hsz HQ.out HMN.out (HSRC.out _ rfl) (by simpa using HFT.out) HON.out
        rw [show goInt (List.replicate c (Value.float .f64 x)).length = .int .i64 c by rw [List.length_replicate]; rfl] at hr
        refine ⟨_, hr, Lib.hid ?_, Lib.hid (below_setRow HB.out.drew (Nat.le_refl _) _)⟩
        rw [setRow_heap wr.drew w.heap.size _ _ 67 _ HQ.out, ← HMORE.out]
        simp [splice]
      have hcp2 : (Builtin.copy_ #[62, 62] 3 #[.slice (if n = m then some ⟨w.heap.size, 0, none⟩ else some ⟨w.heap.size, m, none⟩) (n - m) (n - m), .slice (some ⟨w.heap.size, 0, none⟩) m n]).run Try.prog wr.drew = .ok (.int .i64 c) W4 := by rw [if_neg hnm]; exact hcp
      clear HMN HSRC HFT HON hc
      go_upto_region 9 with fail
      go_region
      all_goals
        go_wp2
        exact ⟨⟨m + c, by omega, hc2, by first | rfl | go_num | (simp), HQ4, HB4⟩, by simp [intOf]; omega⟩
    · obtain rfl : m = n := by omega
      have e1 : ¬ (m : Int) < m := by omega
      have HFIN : Hid (wr.heap[w.heap.size]? = some (.cells (List.replicate m (Value.float .f64 x)).toArray 67)) := Lib.hid (by rw [HQ.out]; simp [two])
      go_wp2
      go_ret
      exact ⟨w.heap.size, rfl, HFIN.out, Nat.le_refl _, HB.out⟩

theorem mass_fall {n : Nat} (hn : n ≤ 8) : ∀ (qs : List (Int × List Int)) (a : Wd.Co × Bool), (∀ q ∈ qs, (100 ≤ q.1 ∧ q.1 < 100 + (n : Int)) ∧ q.2.length ≤ 6) → a.1.length = n → Wd.Bound a.1 →
    Wd.mass (qs.foldl Wd.fallStep a).1 ≤ Wd.mass a.1 ∧ ((qs.foldl Wd.fallStep a).2 = true → a.2 = true ∨ Wd.mass (qs.foldl Wd.fallStep a).1 < Wd.mass a.1)
  | [], a, _, _, _ => ⟨Nat.le_refl _, fun h => .inl h⟩
  | q :: qs, a, hq, hl, hb => by
    rw [List.foldl_cons]
    obtain ⟨hq1, hq2⟩ := hq q List.mem_cons_self
    have hl' : (Wd.fallStep a q).1.length = n := (Wd.fall_len [q] a).trans hl
    obtain ⟨ih1, ih2⟩ := mass_fall hn qs (Wd.fallStep a q) (fun q' hq' => hq q' (List.mem_cons_of_mem _ hq')) hl' (Wd.bound_step (by rw [hl]; exact hq1) hq2 hb)
    have key : Wd.fallStep a q = a ∨ Wd.mass (Wd.fallStep a q).1 < Wd.mass a.1 := by
      unfold Wd.fallStep
      split
      · rename_i hlt
        right
        refine Wd.mass_set (by omega) ?_
        have hpow : 6 ^ Wd.fin a.1 ≤ 1000000000 := Nat.le_trans (Nat.pow_le_pow_right (by decide) (show Wd.fin a.1 ≤ 8 by have := Wd.fin_le a.1; omega)) (by decide)
        have hVB : ∀ k v, Wd.co a.1 k = some v → v ≤ 1000000000 := fun k v h => Nat.le_trans (hb k v h) hpow
        refine (Wd.fc_lt (fun v hv => ?_) (fun v hv => ?_)).2 hlt
        · have h1 := Wd.price_le (C := a.1) (B := 1000000000) (by decide) hVB q.2 0 v hv
          have h2 : q.2.length * 1000000000 ≤ 6 * 1000000000 := Nat.mul_le_mul_right _ hq2
          omega
        · have := hVB _ v hv; omega
      · exact .inl rfl
    rcases key with e | hlt
    · rw [e] at ih1 ih2 ⊢; exact ⟨ih1, ih2⟩
    · exact ⟨by omega, fun _ => .inr (by omega)⟩
def valF : Value → Nat
  | .float _ x => x
  | _ => 0
def costW (b : Nat) (w : World) : Nat := match w.heap[b]? with
  | some (.cells cs _ _) => (cs.toList.map valF).sum
  | _ => 0
theorem cost_fat {w : World} {B : Nat} {C : Wd.Co} (h : FAt w B C) : costW B w = Wd.mass C := by
  unfold costW
  rw [h]
  simp only
  unfold Wd.mass flC
  rw [List.map_map]
  congr 1
  conv => rhs; rw [← List.map_id (C.map Wd.fc)]
  rfl
def cos0 (n : Nat) : Wd.Co := List.replicate n none
theorem co0 (n k v : Nat) : ¬ Wd.co (cos0 n) k = some v := by
  unfold Wd.co cos0
  rw [List.getElem?_replicate]
  split <;> simp

set_option maxRecDepth 100000 in
set_option maxHeartbeats 2000000 in
theorem costs_any (v : Value) (g : Gr) (w : World) (hg : GramAt w v g) (hck : CheckG g) :
    Calls Try.prog 34 #[v] w fun e w' => Below w.heap.size w w' ∧ ∃ B, e = .returned (.tuple #[.slice (some ⟨B, 0, none⟩) g.nons.length g.nons.length, .int .i64 0]) ∧ FAt w' B ((Wd.leastF g).map (Option.map List.length)) ∧ w.heap.size ≤ B := by
  have hg0 := hg
  obtain ⟨a1, a2, a3, c1, c2, c3, qs, rfl, hp, k1, k2, k3, k4, k5, k6, k7⟩ := hg
  have hS : Below w.heap.size w (w.alloc (.cells #[.slice a1 g.terms.length c1, .slice a2 g.nons.length c2, .slice a3 qs.length c3] 28)) := (Below.refl _ _).alloc (Nat.le_refl _) _
  have q0 := heap_alloc_new w (.cells #[.slice a1 g.terms.length c1, .slice a2 g.nons.length c2, .slice a3 qs.length c3] 28)
  have HCA := Lib.hid (check_calls _ g _ (hg0.below hS) hck)
  have HP := Lib.hid hp
  have HS := Lib.hid hS
  have HCK := Lib.hid hck
  have H3 := Lib.hid (k3.below hS)
  have H4 := Lib.hid (fun p hp => (k4 p hp).below hS)
  have hn8 := hck.n8
  have hn1 := hck.n1
  have hql : qs.length = g.prods.length := by rw [← hp, List.length_map]
  have hq24 : qs.length ≤ 24 := by have := hck.p24; omega
  clear hg0 hS k1 k2 k3 k4 hp hck hql
  go_enter Try.func34, Try.ntmps34
  generalize hS1 : w.alloc (.cells #[.slice a1 g.terms.length c1, .slice a2 g.nons.length c2, .slice a3 qs.length c3] 28) = S1 at *
  have l0 := heap_lt q0
  have y0 := (blk_cell (i := 0) (u := .slice a1 g.terms.length c1) q0 rfl).1
  have y1 := (blk_cell (i := 1) (u := .slice a2 g.nons.length c2) q0 rfl).1
  have y2 := (blk_cell (i := 2) (u := .slice a3 qs.length c3) q0 rfl).1
  have HQ0 := Lib.hid q0
  clear q0
  go_upto_region 4 with (go_at_call 53; refine HCA.out.mono ?_; rintro e w2 ⟨rfl, hb2⟩)
  have HB2 := Lib.hid hb2
  have HQ2 := Lib.hid ((hb2.block w.heap.size l0).trans HQ0.out)
  have l2 := Nat.lt_of_lt_of_le l0 hb2.size
  have HS2 := Lib.hid (HS.out.trans (hb2.mono HS.out.size))
  clear y0 y1 y2 hb2 hS1
  have y1 := (blk_cell (i := 1) (u := .slice a2 g.nons.length c2) HQ2.out rfl).1
  have HRP := Lib.hid (repeat_any w2.heap.size g.nons.length 9218868437227405312 hn1 hn8 ((w2.alloc (.cells #[.float .f64 9218868437227405312] 67)).drew) (show (w2.alloc (.cells #[.float .f64 9218868437227405312] 67)).cell? ⟨w2.heap.size, 0, none⟩ = _ from (blk_cell (i := 0) (heap_alloc_new w2 _) rfl).1) (by simp))
  have HBX := Lib.hid ((((Below.refl w2.heap.size w2).alloc (Nat.le_refl _) (.cells #[.float .f64 9218868437227405312] 67))).drew)
  go_region_with (first
    | (go_at_call 78; refine (endless_any _).mono ?_; rintro e w3 ⟨rfl, hw3⟩; obtain rfl := hw3.symm)
    | (go_at_call 77; refine HRP.out.mono ?_; rintro e w3 ⟨B, rfl, hG, hGb, hb3⟩))
  all_goals
    go_wp2
    have HB3 := Lib.hid (HBX.out.trans (hb3.mono HBX.out.size))
    have hGb2 : w2.heap.size ≤ B := Nat.le_trans HBX.out.size hGb
    have HF0 : Hid (FAt w3 B (cos0 g.nons.length)) := Lib.hid (by
      unfold FAt; rw [hG]; unfold flC cos0; simp [flV, Wd.fc, Fl.inf])
    have HC3 := Lib.hid (H3.out.below HB2.out)
    have HC4 := Lib.hid fun p (hp : p ∈ qs) => (H4.out p hp).below HB2.out
    clear hG hb3 HRP HBX
    simp only [Act.put, List.setIfInBounds_toArray, List.set_cons_succ, List.set_cons_zero, List.getElem_toArray, List.getElem_cons_succ, List.getElem_cons_zero]
    go_loopw [20] (fun _ wr => ∃ C : Wd.Co, C.length = g.nons.length ∧ Hid (FAt wr B C) ∧ Hid (Wd.Bound C) ∧ Hid (Wd.Real g.prods C) ∧ Hid (Below w2.heap.size w2 wr)) (fun _ wr => costW B wr)
    case atStart => exact ⟨cos0 g.nons.length, by simp [cos0], HF0, Lib.hid (fun k v h => absurd h (co0 _ k v)), Lib.hid (fun k v h => absurd h (co0 _ k v)), HB3⟩
    case round =>
      obtain ⟨C, hCl, HFA, HBn, HRe, HB⟩ := hrel
      have hq := (HB.out.block w.heap.size l2).trans HQ2.out
      have y2 := (blk_cell (i := 2) (u := .slice a3 qs.length c3) hq rfl).1
      have l3 := heap_lt hq
      have hin := sym_in HCK.out
      have hsz := HB.out.size
      have hFL := heap_lt HFA.out
      have HFE := fall_any a3 c3 B qs C wr (HC3.out.below HB.out) (fun q hq => ⟨(HC4.out q hq).below HB.out, (HCK.out.pv q.plain (by rw [← HP.out]; exact List.mem_map_of_mem hq)).2.1⟩) (fun q hq => by rw [hCl]; exact hin q.plain (by rw [← HP.out]; exact List.mem_map_of_mem hq)) HFA.out HBn.out (cells_far HC3.out hGb2) (fun q hq => cells_far (HC4.out q hq) hGb2) (by omega) (by omega)
      rw [hCl, HP.out] at HFE
      have HFE := Lib.hid HFE
      have hmf := mass_fall hn8 g.prods (C, false) (fun q hq => ⟨(hin q hq).1, (HCK.out.pv q hq).2.1⟩) hCl HBn.out
      have hre := Wd.real_fall (ps := g.prods) g.prods (C, false) (fun q hq => ⟨hq, (hin q hq).1⟩) hCl HRe.out
      have hln := Wd.fall_len g.prods (C, false)
      have hrs := Wd.fall_rest g.prods (C, false)
      have HMF : Hid ((Wd.fallF g.prods C).2 = true → Wd.mass (Wd.fallF g.prods C).1 < Wd.mass C) := Lib.hid fun h => (hmf.2 h).resolve_left (by simp)
      have HRE : Hid (Wd.Real g.prods (Wd.fallF g.prods C).1) := Lib.hid hre
      have HLN : Hid ((Wd.fallF g.prods C).1.length = C.length) := Lib.hid hln
      have HRS : Hid ((Wd.fallF g.prods C).2 = false → (Wd.fallF g.prods C).1 = C ∧ Wd.Rest g.prods C) := Lib.hid fun h => ⟨(hrs h).1, (hrs h).2.2⟩
      clear hq hin hmf hre hln hrs
      generalize Wd.fallF g.prods C = F at *
      obtain ⟨D, b⟩ := F
      simp only at HMF HRE HLN HRS HFE
      cases b with
      | true =>
        go_wp2_with (go_at_call 79; refine HFE.out.mono ?_; rintro e w4 ⟨rfl, hg4, hf4, hb4⟩)
        exact ⟨⟨D, by have := HLN.out; omega, Lib.hid hf4, Lib.hid hb4, HRE, Lib.hid (HB.out.grown hg4 hsz fun x hx => by have : B = x := Option.some.inj hx; omega)⟩, by rw [cost_fat hf4, cost_fat HFA.out]; exact HMF.out trivial⟩
      | false =>
        go_wp2_with (go_at_call 79; refine HFE.out.mono ?_; rintro e w4 ⟨rfl, hg4, hf4, hb4⟩)
        go_ret2
        obtain ⟨hDC, hrest⟩ := HRS.out trivial
        have hfin : C = (Wd.leastF g).map (Option.map List.length) := Wd.cost_is (Wd.least_is (lefts_in HCK.out)) HRe.out hrest hCl
        have hB5 := HB.out.grown hg4 hsz fun x hx => by have : B = x := Option.some.inj hx; omega
        have hs2 := HS2.out.size
        refine ⟨HS2.out.trans (hB5.mono hs2), B, rfl, ?_, by omega⟩
        rw [← hfin, ← hDC]; exact hf4

end Go.Proofs.Ytflfmcikfiaoiaa
