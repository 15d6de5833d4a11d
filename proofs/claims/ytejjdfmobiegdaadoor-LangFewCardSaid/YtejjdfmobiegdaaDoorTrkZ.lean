/- slices.Grow and slices.Concat of rows of numbers, walked. lang: longer, walked. lang: All, of what may be asked, walked. -/
import Derived.Test.YtejjdfmobiegdaaDoorAllW
import Derived.Lib.AppendZerosOnto
import Derived.Lib.AppendZeros
import Derived.Lib.SliceRun
set_option linter.unusedVariables false
set_option linter.unusedSimpArgs false
namespace Go.Proofs.YtejjdfmobiegdaaDoor
open Go.RowKit
open Doc

theorem intU : Tryd.prog.underlying 3 = some (.int .i64) := by kernel_rfl
theorem zeros_size (z : Array Value) (k : Nat) : (Builtin.zeroCells z k).size = k * z.size := by
  simp [Builtin.zeroCells]
set_option maxRecDepth 100000 in
set_option maxHeartbeats 2000000 in
theorem growI_any (n : Nat) (hn : n ≤ 1000) (w : World) :
    Calls Tryd.prog 112 #[.slice none 0 0, .int .i64 n] w fun e w' => ∃ (a : Option Addr) (c : Nat), e = .returned (.slice a 0 c) ∧ w'.ownsRow w.heap.size 3 1 (.slice a 0 c) 0 [] ∧ Below w.heap.size w w' := by
  obtain ⟨i0, hi0, hz0, hz1, hz2⟩ := info_of infoI
  by_cases h0 : n = 0
  · subst h0
    go_enter Tryd.func112, Tryd.ntmps112
    go_wp2
    go_ret
    exact ⟨none, 0, rfl, World.ownsRow_nil _ _ _ _, Below.refl _ _⟩
  · have e1 : (0 : Int) < n := by omega
    have e2 : ¬ (n : Int) < 0 := by omega
    have hrz : ∀ ty, (Builtin.append_ #[25, 3] ty #[.slice none 0 0, .int .i64 (n : Int)]).run Tryd.prog w =
        .ok (.slice (some ⟨w.heap.size, 0, none⟩) (0 + n) (grownCap w (0 + n) 0 3)) (w.drew.alloc (.cells (([] : List Value).toArray ++ Builtin.zeroCells (Value.int .i64 0).cells n ++ Builtin.zeroCells (Value.int .i64 0).cells (grownCap w (0 + n) 0 3 - (0 + n))) 3)) := fun ty =>
      Lib.run_append_grow_zeros w 25 3 ty 3 i0 _ .i64 .i64 Tryd.underlying25 intU hi0 hz0 none 0 0 [] (run_firstCells_none w.drew i0.size 0 0 0) n (by omega) (by omega) (by omega) (by omega) (by rw [hz2]; omega) (growslice_fits (by omega) (by rw [hz2]; omega))
    have hG := grownCap_ge w (0 + n) 0 3
    have hM := grownCap_le_maxLen w (0 + n) 0 3 (by unfold maxLen; omega)
    rw [Nat.zero_add] at *
    generalize hGG : grownCap w n 0 3 = G at *
    have HM := Lib.hid hM
    have HOB := Lib.hid (show (w.drew.alloc (.cells (([] : List Value).toArray ++ Builtin.zeroCells (Value.int .i64 0).cells n ++ Builtin.zeroCells (Value.int .i64 0).cells (G - n)) 3)).ownsRow w.heap.size 3 1 (.slice (some ⟨w.heap.size, 0, none⟩) 0 G) 0 [] from World.ownsRow_made w.drew _ G (Nat.le_refl _) hM (by rw [Array.size_append, Array.size_append, zeros_size, zeros_size]; simp [Value.cells]; omega))
    have HBB := Lib.hid (show Below w.heap.size w (w.drew.alloc (.cells (([] : List Value).toArray ++ Builtin.zeroCells (Value.int .i64 0).cells n ++ Builtin.zeroCells (Value.int .i64 0).cells (G - n)) 3)) from (Below.refl _ _).drew.alloc (Nat.le_refl _) _)
    generalize w.drew.alloc (.cells (([] : List Value).toArray ++ Builtin.zeroCells (Value.int .i64 0).cells n ++ Builtin.zeroCells (Value.int .i64 0).cells (G - n)) 3) = W at *
    have hG63 : G ≤ 9223372036854775807 := by unfold maxLen at hM; omega
    clear hGG hM h0
    go_enter Tryd.func112, Tryd.ntmps112
    go_wp2_with (at_builtin; refine Lib.wpList_append_run _ rfl _ _ _ _ rfl _ _ rfl rfl _ _ (hrz _) ?_)
    all_goals
      go_ret
      exact ⟨some ⟨w.heap.size, 0, none⟩, G, rfl, HOB.out, HBB.out⟩

set_option maxRecDepth 100000 in
set_option maxHeartbeats 2000000 in
theorem concat_any (sa : Option Addr) (sc : Nat) (rs : List RowL) (w : World) (hs : Cells w sa (rowVs rs)) (hr : ∀ r ∈ rs, Cells w r.addr (nums r.row)) (hl : rs.length ≤ 1000) (ht : (rs.flatMap (·.row)).length ≤ 1000) :
    Calls Tryd.prog 88 #[.slice sa rs.length sc] w fun e w' => ∃ (a : Option Addr) (c : Nat), e = .returned (.slice a (rs.flatMap (·.row)).length c) ∧ w'.ownsRow w.heap.size 3 1 (.slice a (rs.flatMap (·.row)).length c) (rs.flatMap (·.row)).length (nums (rs.flatMap (·.row))) ∧ Below w.heap.size w w' := by
  have HS := Lib.hid hs
  have HR := Lib.hid hr
  have HG := Lib.hid fun W => growI_any (rs.flatMap (·.row)).length ht W
  have HL := Lib.hid fun k (hk : k ≤ rs.length) => (show ((rs.take k).flatMap (·.row)).length ≤ (rs.flatMap (·.row)).length by
    conv => rhs; rw [← List.take_append_drop k rs, List.flatMap_append, List.length_append]
    omega)
  clear hs hr
  generalize hN : (rs.flatMap (·.row)).length = N at *
  have HN := Lib.hid hN
  clear hN
  go_enter Tryd.func88, Tryd.ntmps88
  go_wp2
  go_loopw [3, 11] (fun n i wr => ∃ k m : Nat, k ≤ rs.length ∧ i = .int .i64 k ∧ n = .int .i64 m ∧ Hid (m = ((rs.take k).flatMap (·.row)).length) ∧ Hid (Below w.heap.size w wr)) (fun _ i _ => rs.length - (intOf i).toNat)
  case atStart => exact ⟨0, 0, by omega, rfl, rfl, Lib.hid (by simp), Lib.hid (Below.refl _ _)⟩
  case round =>
    obtain ⟨k, m, hk, rfl, rfl, HM, HB⟩ := hrel
    by_cases hlt : k < rs.length
    · obtain ⟨r, hr⟩ : ∃ r, rs[k]? = some r := ⟨_, List.getElem?_eq_getElem hlt⟩
      obtain ⟨b, off, rfl, hb, hc⟩ := (HS.out.below HB.out).get (by intro e; have := rowVs_at hr; rw [e] at this; simp at this)
      have c0 := hc _ _ (rowVs_at hr)
      have e1 : (k : Int) < rs.length := by omega
      have hm1 := HL.out (k + 1) hlt
      have hmm : ((rs.take (k + 1)).flatMap (·.row)).length = m + r.row.length := by rw [List.take_add_one, hr, List.flatMap_append, List.length_append, ← HM.out]; simp
      have HMM := Lib.hid hmm
      rw [hmm] at hm1
      clear hc hr hmm
      have e2 : ¬ (m : Int) + (r.row.length : Int) < 0 := by omega
      go_wp2
      go_roundw
      case rel => exact ⟨k + 1, m + r.row.length, by omega, by go_num, by go_num, Lib.hid HMM.out.symm, HB⟩
      case measure => simp [intOf]; omega
    · have hkl : k = rs.length := by omega
      subst hkl
      have hm : m = N := by rw [HM.out, List.take_length, HN.out]
      subst hm
      go_wp2_with (go_at_call 112; refine (HG.out _).mono ?_; rintro e w2 ⟨ga, gc, rfl, ho2, hb2⟩)
      have HO2 := Lib.hid (own_base' ho2 HB.out.size)
      have HB2 := Lib.hid (HB.out.trans (hb2.mono HB.out.size))
      clear ho2 hb2 HB
      go_loopw [6, 27] (fun v i wr' => ∃ (k n : Nat) (a : Option Addr) (c : Nat), k ≤ rs.length ∧ i = .int .i64 k ∧ v = .slice a n c ∧ Hid (n = ((rs.take k).flatMap (·.row)).length) ∧ Hid (wr'.ownsRow w.heap.size 3 1 (.slice a n c) n (nums ((rs.take k).flatMap (·.row)))) ∧ Hid (Below w.heap.size w wr')) (fun _ i _ => rs.length - (intOf i).toNat)
      case atStart => exact ⟨0, 0, ga, gc, by omega, rfl, rfl, Lib.hid (by simp), Lib.hid (by simpa [nums] using HO2.out), HB2⟩
      case round =>
        clear HO2 HB2
        obtain ⟨k, n, a, c, hk, rfl, rfl, HNK, HO, HBX⟩ := hrel
        by_cases hlt : k < rs.length
        · obtain ⟨r, hr⟩ : ∃ r, rs[k]? = some r := ⟨_, List.getElem?_eq_getElem hlt⟩
          obtain ⟨b, off, rfl, hb, hc⟩ := (HS.out.below HBX.out).get (by intro e; have := rowVs_at hr; rw [e] at this; simp at this)
          have c0 := hc _ _ (rowVs_at hr)
          have e1 : (k : Int) < rs.length := by omega
          have hm1 := HL.out (k + 1) hlt
          have hcat : (rs.take (k + 1)).flatMap (·.row) = (rs.take k).flatMap (·.row) ++ r.row := by rw [List.take_add_one, hr, List.flatMap_append]; simp
          rw [hcat, List.length_append, ← HNK.out] at hm1
          have HCAT := Lib.hid hcat
          have HRC := Lib.hid ((HR.out r (List.mem_of_getElem? hr)).below HBX.out)
          clear hc hr hcat
          generalize (rs.take k).flatMap (·.row) = T at *
          obtain ⟨ra, rc, rr⟩ := r
          simp only at *
          go_wp2_with (at_builtin; refine wpList_app rfl (.tmp 31) (.tmp 32) rfl w.heap.size a n c T rfl HO.out HBX.out.size ra rr rc rfl HRC.out (by omega) ?_; intro va1 vc1 w4 ho4 hg4; have HO4 := Lib.hid ho4; have HG4 := Lib.hid hg4; clear ho4 hg4)
          go_roundw
          case rel => exact ⟨k + 1, n + rr.length, va1, vc1, by omega, by go_num, rfl, Lib.hid (by rw [HCAT.out, List.length_append, ← HNK.out]), Lib.hid (by rw [HCAT.out]; exact HO4.out), Lib.hid (HBX.out.grown HG4.out HBX.out.size (fun x hx => (HO.out.lt x hx).1))⟩
          case measure => simp [intOf]; omega
        · have hkl : k = rs.length := by omega
          subst hkl
          have hn : n = m := by rw [HNK.out, List.take_length, HN.out]
          subst hn
          have hO := HO.out
          rw [List.take_length] at hO
          have HOF := Lib.hid hO
          clear hO
          go_wp2
          go_ret
          exact ⟨a, c, rfl, HOF.out, HBX.out⟩
end Go.Proofs.YtejjdfmobiegdaaDoor

set_option linter.unusedVariables false
namespace Go.Proofs.YtejjdfmobiegdaaDoor
open Go.RowKit
open Doc

/-- Rows of numbers as they lie in a slice that may be nil, and grows. -/
structure RowsG (w : World) (base : Nat) (a : Option Addr) (cap : Nat) (rs : List RowL) : Prop where
  own : w.ownsRow base 25 1 (.slice a rs.length cap) rs.length (rowVs rs)
  rows : ∀ r ∈ rs, Cells w r.addr (nums r.row)
  apart : ∀ r ∈ rs, ∀ x, r.addr = some x → (∀ y, a = some y → x.block ≠ y.block) ∧ base ≤ x.block ∧ x.block < w.heap.size
theorem RowsG.below {w w' : World} {base cap : Nat} {a : Option Addr} {rs : List RowL} (h : RowsG w base a cap rs) (hb : Below w.heap.size w w') : RowsG w' base a cap rs :=
  ⟨own_same h.own fun k _ hk => hb.block k hk, fun r hr => (h.rows r hr).below hb, fun r hr x hx => ⟨(h.apart r hr x hx).1, (h.apart r hr x hx).2.1, Nat.lt_of_lt_of_le (h.apart r hr x hx).2.2 hb.size⟩⟩
theorem RowsG.nil (w : World) (base : Nat) : RowsG w base none 0 [] := ⟨World.ownsRow_nil _ _ _ _, fun r hr => (by cases hr), fun r hr => (by cases hr)⟩
theorem ownBlock_eq {a : Option Addr} {n c x : Nat} (h : (Value.slice a n c).ownBlock = some x) : ∃ y, a = some y ∧ y.block = x := by
  cases a with
  | none => cases h
  | some y => cases h; exact ⟨y, rfl, rfl⟩
theorem RowsG.push {w w1 w2 : World} {base cap : Nat} {a : Option Addr} {rs : List RowL} (h : RowsG w base a cap rs) (hbs : base ≤ w.heap.size) (h1 : Below w.heap.size w w1) {r : RowL} (hc : Cells w1 r.addr (nums r.row)) (ha : ∀ x, r.addr = some x → w.heap.size ≤ x.block ∧ x.block < w1.heap.size)
    {g' cap' : Nat} (ho : w2.ownsRow base 25 1 (.slice (some ⟨g', 0, none⟩) (rs.length + 1) cap') (rs.length + 1) (rowVs rs ++ [.slice r.addr r.row.length r.cap])) (hg : w1.grownBy w2 (Value.slice a rs.length cap).ownBlock) (hl : (Value.slice a rs.length cap).ownBlock = some g' ∨ g' = w1.heap.size) : RowsG w2 base (some ⟨g', 0, none⟩) cap' (rs ++ [r]) := by
  have h1s := h1.size
  have hs2 := hg.size
  have hall : ∀ q ∈ rs, ∀ x, q.addr = some x → x.block ≠ g' ∧ some x.block ≠ (Value.slice a rs.length cap).ownBlock := fun q hq x hx => by
    have h3 := h.apart q hq x hx
    have hne : some x.block ≠ (Value.slice a rs.length cap).ownBlock := fun e => by
      obtain ⟨y, hy, hyb⟩ := ownBlock_eq e.symm
      exact h3.1 y hy hyb.symm
    refine ⟨fun e => ?_, hne⟩
    rcases hl with hl | hl
    · exact hne (by rw [hl, e])
    · omega
  refine ⟨?_, fun q hq => ?_, fun q hq x hx => ?_⟩
  · rw [show rowVs (rs ++ [r]) = rowVs rs ++ [.slice r.addr r.row.length r.cap] by simp [rowVs], List.length_append, List.length_singleton]
    exact ho
  · rcases List.mem_append.1 hq with hq | hq
    · exact cells_grown ((h.rows q hq).below h1) hg fun x hx => (hall q hq x hx).2
    · obtain rfl := List.mem_singleton.1 hq
      refine cells_grown hc hg fun x hx e => ?_
      have h3 := (ha x hx).1
      have := (h.own.lt x.block e.symm).2
      omega
  · rcases List.mem_append.1 hq with hq | hq
    · have h3 := h.apart q hq x hx
      refine ⟨fun y hy => ?_, h3.2.1, by omega⟩
      cases hy
      exact (hall q hq x hx).1
    · obtain rfl := List.mem_singleton.1 hq
      have h3 := ha x hx
      refine ⟨fun y hy => ?_, by omega, by omega⟩
      cases hy
      show x.block ≠ g'
      rcases hl with hl | hl
      · have := (h.own.lt g' hl).2; omega
      · omega

set_option maxRecDepth 100000 in
set_option maxHeartbeats 4000000 in
theorem longer_any (sa : Option Addr) (sc t : Nat) (rs : List RowL) (w : World) (hs : Cells w sa (rowVs rs)) (hr : ∀ r ∈ rs, Cells w r.addr (nums r.row)) (hl : rs.length ≤ 5000) (ht : t ≤ 8) (hrl : ∀ r ∈ rs, r.row.length ≤ 10) :
    Calls Tryd.prog 60 #[.slice sa rs.length sc, .int .i64 t] w fun e w' => ∃ (a : Option Addr) (c : Nat) (R : List RowL), e = .returned (.slice a R.length c) ∧ R.map (·.row) = (rs.map (·.row)).flatMap (Al.ext t) ∧ RowsG w' w.heap.size a c R ∧ Below w.heap.size w w' := by
  obtain ⟨i1, hi1, hy0, hy1, hy2⟩ := info_of infoRow7
  have HS := Lib.hid hs
  have HR := Lib.hid hr
  have HRL := Lib.hid hrl
  clear hs hr hrl
  go_enter Tryd.func60, Tryd.ntmps60
  go_wp2
  go_loopw [5, 11] (fun v i wr => ∃ (k : Nat) (a : Option Addr) (c : Nat) (R : List RowL), k ≤ rs.length ∧ i = .int .i64 k ∧ v = .slice a R.length c ∧ Hid (R.map (·.row) = ((rs.take k).map (·.row)).flatMap (Al.ext t)) ∧ Hid (RowsG wr w.heap.size a c R) ∧ Hid (Below w.heap.size w wr)) (fun _ i _ => rs.length - (intOf i).toNat)
  case atStart => exact ⟨0, none, 0, [], by omega, rfl, rfl, Lib.hid (by simp), Lib.hid (RowsG.nil _ _), Lib.hid (Below.refl _ _)⟩
  case round =>
    obtain ⟨k, a, c, R, hk, rfl, rfl, HE, HG, HB⟩ := hrel
    by_cases hlt : k < rs.length
    · obtain ⟨r, hr⟩ : ∃ r, rs[k]? = some r := ⟨_, List.getElem?_eq_getElem hlt⟩
      obtain ⟨b, off, rfl, hb, hc⟩ := (HS.out.below HB.out).get (by intro e; have := rowVs_at hr; rw [e] at this; simp at this)
      have c0 := hc _ _ (rowVs_at hr)
      have e1 : (k : Int) < rs.length := by omega
      have hrm := List.mem_of_getElem? hr
      have hl10 := HRL.out r hrm
      have HRC := Lib.hid (HR.out r hrm)
      have HST := Lib.hid (show ((rs.take (k + 1)).map (·.row)).flatMap (Al.ext t) = ((rs.take k).map (·.row)).flatMap (Al.ext t) ++ Al.ext t r.row by rw [List.take_add_one, hr]; simp)
      clear hc hr hrm
      obtain ⟨ra, rc, rr⟩ := r
      simp only at *
      have hTl : (((rs.take k).map (·.row)).flatMap (Al.ext t)).length ≤ 40000 := by
        rw [List.length_flatMap, show ((rs.take k).map (·.row)).map (fun a => (Al.ext t a).length) = ((rs.take k).map (·.row)).map fun _ => t by simp [Al.ext_len], List.map_const', List.sum_replicate_nat, List.length_map, List.length_take]
        have h1 : min k rs.length ≤ 5000 := by omega
        have h2 : min k rs.length * t ≤ 5000 * 8 := Nat.mul_le_mul h1 ht
        omega
      generalize ((rs.take k).map (·.row)).flatMap (Al.ext t) = T at *
      go_wp2_with fail
      go_loopw [5, 16] (fun v i wr' => ∃ (j : Nat) (a : Option Addr) (c : Nat) (R : List RowL), j ≤ t ∧ i = .int .i64 j ∧ v = .slice a R.length c ∧ Hid (R.map (·.row) = T ++ (List.range j).map fun i => rr ++ [((i + 1 : Nat) : Int)]) ∧ Hid (RowsG wr' w.heap.size a c R) ∧ Hid (Below w.heap.size w wr')) (fun _ i _ => t - (intOf i).toNat)
      case atStart => exact ⟨0, a, c, R, by omega, rfl, rfl, Lib.hid (by rw [HE.out]; simp), HG, HB⟩
      case round =>
        clear HE HG HB
        obtain ⟨j, a, c, R, hj, rfl, rfl, HE, HG, HB⟩ := hrel
        by_cases hjt : j < t
        · have e2 : (j : Int) < t := by omega
          have hRl : R.length ≤ 50000 := by have h1 : R.length = T.length + j := (by have := congrArg List.length HE.out; simpa using this); omega
          have hbx : Below wr.heap.size wr ((wr.alloc (.cells #[.int .i64 ((j : Int) + 1)] 3)).alloc (.cells #[.slice ra rr.length rc, .slice (some ⟨wr.heap.size, 0, none⟩) 1 1] 25)) := ((Below.refl _ _).alloc (Nat.le_refl _) _).alloc (by simp) _
          have hx0 : Cells ((wr.alloc (.cells #[.int .i64 ((j : Int) + 1)] 3)).alloc (.cells #[.slice ra rr.length rc, .slice (some ⟨wr.heap.size, 0, none⟩) 1 1] 25)) (some ⟨wr.heap.size, 0, none⟩) (nums [(j : Int) + 1]) := (cells_new wr #[.int .i64 ((j : Int) + 1)] 3).below ((Below.refl _ _).alloc (Nat.le_refl _) _)
          have hx1 := cells_new (wr.alloc (.cells #[.int .i64 ((j : Int) + 1)] 3)) #[.slice ra rr.length rc, .slice (some ⟨wr.heap.size, 0, none⟩) 1 1] 25
          rw [show (wr.alloc (.cells #[.int .i64 ((j : Int) + 1)] 3)).heap.size = wr.heap.size + 1 by simp] at hx1
          have HCO := Lib.hid (concat_any _ 2 [⟨ra, rc, rr⟩, ⟨some ⟨wr.heap.size, 0, none⟩, 1, [(j : Int) + 1]⟩] _ hx1 (fun q hq => by
            rcases List.mem_cons.1 hq with rfl | hq
            · exact (HRC.out.below HB.out).below hbx
            · obtain rfl := List.mem_singleton.1 hq
              exact hx0) (by simp) (by simp; omega))
          have hfl : ([⟨ra, rc, rr⟩, ⟨some ⟨wr.heap.size, 0, none⟩, 1, [(j : Int) + 1]⟩] : List RowL).flatMap (·.row) = rr ++ [(j : Int) + 1] := by simp
          have HCN := HCO.out
          rw [hfl, List.length_append, List.length_singleton, show ([⟨ra, rc, rr⟩, ⟨some ⟨wr.heap.size, 0, none⟩, 1, [(j : Int) + 1]⟩] : List RowL).length = 2 from rfl] at HCN
          have HCM := Lib.hid HCN
          clear HCN HCO hfl
          have HBX := Lib.hid hbx
          have hsz := HB.out.size
          have hRow : (R ++ [⟨none, 0, rr ++ [((j + 1 : Nat) : Int)]⟩] : List RowL).map (·.row) = T ++ (List.range (j + 1)).map fun i => rr ++ [((i + 1 : Nat) : Int)] := by
            rw [List.map_append, HE.out, List.range_succ, List.map_append, List.append_assoc]; rfl
          have HROW := Lib.hid hRow
          clear hbx hx0 hx1 hRow
          go_wp2_with (first
            | (go_at_call 88; (with_reducible refine HCM.out.mono ?_); rintro e w5 ⟨na, nc, rfl, ho5, hb5⟩
               have HO5 := Lib.hid ho5
               have hb6 := HBX.out.trans (hb5.mono HBX.out.size)
               have HB6 := Lib.hid hb6
               have HG6 := Lib.hid (HG.out.below hb6)
               clear ho5 hb5 hb6)
            | (at_builtin; refine wpList_append_lies _ rfl (.tmp 19) (.tmp 26) 22 rfl w.heap.size 25 i1 (.slice none 0 0) 1 24 Tryd.underlying22 hi1 hy0 hy1 hy2 rfl (by decide) _ R.length (rowVs R) rfl (HG6.out.own.alloc _) ⟨w5.heap.size, 0, none⟩ 1 1 [.slice na (rr.length + 1) nc] rfl rfl (World.news_of_block (cs := #[.slice na (rr.length + 1) nc]) (t := 25) (fr := (0, 0)) (heap_alloc_new w5 _)) (by simp [Value.oneCell']) (by decide) (by unfold maxLen; omega) (by omega) (by have := HB6.out.size; simp; omega) (w5.heap.size + 1) (by simp) ?_; intro g6 cap6 w6 ho6 hg6 hl6 hat6; have HO6 := Lib.hid ho6; have HGG := Lib.hid hg6; have HL6 := Lib.hid hl6; clear ho6 hg6 hl6))
          have HB7 := Lib.hid (HB6.out.alloc HB6.out.size (.cells #[.slice na (rr.length + 1) nc] 25))
          have HXS := Lib.hid (HBX.out.size)
          have HPU := Lib.hid (HG.out.push HB.out.size HB7.out (r := ⟨na, nc, rr ++ [(j : Int) + 1]⟩) ((own_cells HO5.out).1.below ((Below.refl _ _).alloc (Nat.le_refl _) _)) (fun x hx => by
            have h1 := HO5.out.lt x.block (by rw [show na = some x from hx]; rfl)
            have h2 := HXS.out
            have h3 : (w5.alloc (.cells #[.slice na (rr.length + 1) nc] 25)).heap.size = w5.heap.size + 1 := by simp
            rw [h3]
            omega) (by show w6.ownsRow _ _ _ _ _ (rowVs R ++ [.slice na (rr ++ [(j : Int) + 1]).length nc]); rw [List.length_append, List.length_singleton]; exact HO6.out) HGG.out (HL6.out.imp id fun h => by rw [h]; simp))
          have HBF := Lib.hid ((HB.out.trans (HB7.out.mono HB.out.size)).grown HGG.out (by have := HB7.out.size; have := HB.out.size; omega) (fun x hx => (HG6.out.own.lt x hx).1))
          go_roundw
          case rel => exact ⟨j + 1, some ⟨g6, 0, none⟩, cap6, R ++ [⟨na, nc, rr ++ [(j : Int) + 1]⟩], by omega, by go_num, by simp, Lib.hid (by
            rw [List.map_append, HE.out, List.range_succ, List.map_append, List.append_assoc]
            simp), HPU, HBF⟩
          case measure => simp [intOf]; omega
        · have hjt2 : j = t := by omega
          subst hjt2
          have HFE := Lib.hid (show R.map (·.row) = ((rs.take (k + 1)).map (·.row)).flatMap (Al.ext j) from HE.out.trans HST.out.symm)
          go_wp2
          go_roundw
          case rel => exact ⟨k + 1, a, c, R, by omega, by go_num, rfl, HFE, HG, HB⟩
          case measure => simp [intOf]; omega
    · have hkl : k = rs.length := by omega
      subst hkl
      have hEE := HE.out
      rw [List.take_length] at hEE
      have HEE := Lib.hid hEE
      clear hEE
      go_wp2
      go_ret
      exact ⟨a, c, R, rfl, HEE.out, HG.out, HB.out⟩
end Go.Proofs.YtejjdfmobiegdaaDoor

set_option linter.unusedVariables false
namespace Go.Proofs.YtejjdfmobiegdaaDoor
open Go.RowKit
open Doc

theorem rows_news {W : World} {a : Option Addr} {l : List RowL} (h : Cells W a (rowVs l)) (hl : l ≠ []) : ∃ g o, a = some ⟨g, o, none⟩ ∧ ∀ j u, (rowVs l)[j]? = some u → W.cell? ((⟨g, o, none⟩ : Addr).add j) = some u := by
  obtain ⟨g, o, rfl, _, hc⟩ := h.get (by unfold rowVs; intro e; rw [List.map_eq_nil_iff] at e; exact hl e)
  refine ⟨g, o, rfl, fun j u hu => ?_⟩
  have e : (⟨g, o, none⟩ : Addr).add j = ⟨g, o + j, none⟩ := by unfold Addr.add; split <;> simp_all
  rw [e]; exact hc j u hu
theorem rowVs_app (l m : List RowL) : rowVs (l ++ m) = rowVs l ++ rowVs m := by simp [rowVs]
/-- Rows that were made later, put behind. -/
theorem RowsG.app {w0 w1 w2 : World} {base cap ca : Nat} {a aa : Option Addr} {L A : List RowL} (h : RowsG w0 base a cap L) (hbs : base ≤ w0.heap.size) (h1 : Below w0.heap.size w0 w1) (hA : RowsG w1 w0.heap.size aa ca A) {g' cap' : Nat} (ho : w2.ownsRow base 25 1 (.slice (some ⟨g', 0, none⟩) (L.length + A.length) cap') (L.length + A.length) (rowVs L ++ rowVs A)) (hg : w1.grownBy w2 (Value.slice a L.length cap).ownBlock) (hl : (Value.slice a L.length cap).ownBlock = some g' ∨ g' = w1.heap.size) :
    RowsG w2 base (some ⟨g', 0, none⟩) cap' (L ++ A) ∧ Cells w2 aa (rowVs A) := by
  have h1s := h1.size
  have hs2 := hg.size
  have hown : ∀ x, (Value.slice a L.length cap).ownBlock = some x → x < w0.heap.size := fun x hx => (h.own.lt x hx).2
  have hnew : ∀ b, w0.heap.size ≤ b → some b ≠ (Value.slice a L.length cap).ownBlock := fun b hb e => by have := hown b e.symm; omega
  refine ⟨⟨?_, fun q hq => ?_, fun q hq x hx => ?_⟩, ?_⟩
  · rw [rowVs_app, List.length_append]; exact ho
  · rcases List.mem_append.1 hq with hq | hq
    · refine cells_grown ((h.rows q hq).below h1) hg fun x hx e => ?_
      obtain ⟨y, hy, hyb⟩ := ownBlock_eq e.symm
      exact (h.apart q hq x hx).1 y hy hyb.symm
    · exact cells_grown (hA.rows q hq) hg fun x hx => hnew _ (hA.apart q hq x hx).2.1
  · rcases List.mem_append.1 hq with hq | hq
    · have h3 := h.apart q hq x hx
      refine ⟨fun y hy => ?_, h3.2.1, by omega⟩
      cases hy
      rcases hl with hl | hl
      · obtain ⟨y, hy, hyb⟩ := ownBlock_eq hl
        have := h3.1 y hy
        show x.block ≠ g'
        omega
      · show x.block ≠ g'; omega
    · have h3 := hA.apart q hq x hx
      refine ⟨fun y hy => ?_, by omega, by omega⟩
      cases hy
      rcases hl with hl | hl
      · have := hown g' hl
        show x.block ≠ g'; omega
      · show x.block ≠ g'; omega
  · exact cells_grown (own_cells hA.own).1 hg fun x hx => hnew _ (hA.own.lt x.block (by rw [hx]; rfl)).1
theorem lev_le {t : Nat} (ht : t ≤ 8) {k m : Nat} (hk : k ≤ m) : (Al.lev t k).length ≤ 8 ^ m := by
  rw [Al.lev_len]
  exact Nat.le_trans (Nat.pow_le_pow_left ht k) (Nat.pow_le_pow_right (by omega) hk)
theorem levs_le {t : Nat} (ht : t ≤ 8) : ∀ k, k ≤ 5 → (Al.levs t k).length ≤ (k + 1) * 8 ^ 5
  | 0, _ => by show 1 ≤ (0 + 1) * 8 ^ 5; decide
  | k + 1, hk => by
    show (Al.levs t k ++ Al.lev t (k + 1)).length ≤ _
    rw [List.length_append]
    have h1 := levs_le ht k (by omega)
    have h2 := lev_le ht (k := k + 1) (m := 5) hk
    omega
set_option maxRecDepth 100000 in
set_option maxHeartbeats 4000000 in
theorem lall_any (t n : Nat) (ht : t ≤ 8) (hn : n ≤ 5) (w : World) :
    Calls Tryd.prog 21 #[.int .i64 t, .int .i64 n] w fun e w' => ∃ (a : Option Addr) (c : Nat) (R : List RowL), e = .returned (.slice a R.length c) ∧ R.map (·.row) = Al.levs t n ∧ RowsG w' w.heap.size a c R ∧ Below w.heap.size w w' := by
  obtain ⟨i1, hi1, hy0, hy1, hy2⟩ := info_of infoRow7
  have g1 : decide ((t : Int) < 0) = false := by simp
  have g2 : decide ((t : Int) > 8) = false := by simp; omega
  have g3 : decide ((n : Int) < 0) = false := by simp
  have g4 : decide ((n : Int) > 5) = false := by simp; omega
  have HST := Lib.hid (all_start w)
  have HB0 := Lib.hid (boxA w (.cells #[.slice none 0 0] 25))
  go_enter Tryd.func21, Tryd.ntmps21
  go_wp2
  go_loopw [5, 6, 24] (fun l v i wr => ∃ (k : Nat) (a aa : Option Addr) (c ca : Nat) (L A : List RowL), k ≤ n ∧ i = .int .i64 k ∧ l = .slice a L.length c ∧ v = .slice aa A.length ca ∧ Hid (L.map (·.row) = Al.levs t k) ∧ Hid (A.map (·.row) = Al.lev t k) ∧ Hid (RowsG wr w.heap.size a c L) ∧ Hid (Cells wr aa (rowVs A)) ∧ Hid (∀ r ∈ A, Cells wr r.addr (nums r.row)) ∧ Hid (Below w.heap.size w wr)) (fun _ _ i _ => n - (intOf i).toNat)
  case atStart => exact ⟨0, some ⟨w.heap.size, 0, none⟩, some ⟨w.heap.size, 0, none⟩, 1, 1, [⟨none, 0, []⟩], [⟨none, 0, []⟩], by omega, rfl, rfl, rfl, Lib.hid rfl, Lib.hid rfl, Lib.hid ⟨HST.out.own, HST.out.rows, fun r hr x hx => (by obtain rfl := List.mem_singleton.1 hr; cases hx)⟩, Lib.hid (own_cells HST.out.own).1, Lib.hid HST.out.rows, HB0⟩
  case round =>
    obtain ⟨k, a, aa, c, ca, L, A, hk, rfl, rfl, rfl, HL, HA, HG, HC, HR, HB⟩ := hrel
    by_cases hlt : k < n
    · have e1 : (k : Int) < n := by omega
      have hAl : A.length ≤ 5000 := by
        have h1 : A.length = (Al.lev t k).length := by rw [← HA.out, List.length_map]
        have h2 := lev_le ht (k := k) (m := 4) (by omega)
        have : (8 : Nat) ^ 4 = 4096 := by decide
        omega
      have hLl : L.length ≤ 300000 := by
        have h1 : L.length = (Al.levs t k).length := by rw [← HL.out, List.length_map]
        have h2 := levs_le ht k (by omega)
        have h3 : (k + 1) * 8 ^ 5 ≤ 6 * 8 ^ 5 := Nat.mul_le_mul_right _ (by omega)
        have : 6 * 8 ^ 5 = 196608 := by decide
        omega
      have hAr : ∀ r ∈ A, r.row.length ≤ 10 := fun r hr => by
        have h1 : r.row ∈ Al.lev t k := by rw [← HA.out]; exact List.mem_map_of_mem hr
        have := (Al.lev_word.1 h1).1; omega
      have HLO := Lib.hid (longer_any aa ca t A wr HC.out HR.out hAl ht hAr)
      have hBz := HB.out.size
      clear hAl hAr
      go_upto_region 8 with (go_at_call 60; (with_reducible refine HLO.out.mono ?_); rintro e w2 ⟨a2, c2, A2, rfl, hA2, hG2, hb2⟩)
      have hAA : A2.map (·.row) = Al.lev t (k + 1) := by rw [hA2, HA.out]; rfl
      have hA2l : A2.length ≤ 50000 := by
        have h1 : A2.length = (Al.lev t (k + 1)).length := by rw [← hAA, List.length_map]
        have h2 := lev_le ht (k := k + 1) (m := 5) (by omega)
        have : (8 : Nat) ^ 5 = 32768 := by decide
        omega
      have hLA : (L ++ A2).map (·.row) = Al.levs t (k + 1) := by rw [List.map_append, HL.out, hAA]; rfl
      have HAA := Lib.hid hAA
      have HLA := Lib.hid hLA
      have HG2 := Lib.hid hG2
      have HB2 := Lib.hid hb2
      have HGL := Lib.hid (HG.out.below hb2)
      have HBB := Lib.hid (HB.out.trans (hb2.mono hBz))
      clear hA2 hAA hLA hG2 hb2 HLO
      by_cases hnil : A2 = []
      · subst hnil
        have hnc := (own_cells HGL.out.own).2
        go_wp2_with (at_builtin; refine wpList_nothing rfl (.tmp 29) (.tmp 30) 22 rfl 25 i1 Tryd.underlying22 hi1 a L.length c rfl hnc a2 c2 rfl ?_)
        go_roundw
        case rel => exact ⟨k + 1, a, a2, c, c2, L, [], by omega, by go_num, rfl, rfl, Lib.hid (by have := HLA.out; rwa [List.append_nil] at this), HAA, HGL, Lib.hid (own_cells HG2.out.own).1, Lib.hid HG2.out.rows, HBB⟩
        case measure => simp [intOf]; omega
      · obtain ⟨g, o, rfl, hn5⟩ := rows_news (own_cells HG2.out.own).1 hnil
        have hm1 : 0 < A2.length := List.length_pos_iff.2 hnil
        go_wp2_with (at_builtin; refine wpList_append_lies _ rfl (.tmp 29) (.tmp 30) 22 rfl w.heap.size 25 i1 (.slice none 0 0) 1 24 Tryd.underlying22 hi1 hy0 hy1 hy2 rfl (by decide) _ L.length (rowVs L) rfl HGL.out.own ⟨g, o, none⟩ A2.length c2 (rowVs A2) rfl (by simp [rowVs]) hn5 (fun u hu => by obtain ⟨z, _, rfl⟩ := List.mem_map.1 hu; rfl) hm1 (by unfold maxLen; omega) (by omega) HBB.out.size _ rfl ?_; intro g6 cap6 w6 ho6 hg6 hl6 hat6; have HO6 := Lib.hid ho6; have HGG := Lib.hid hg6; have HL6 := Lib.hid hl6; clear ho6 hg6 hl6)
        have HAP := Lib.hid (HG.out.app hBz HB2.out HG2.out HO6.out HGG.out HL6.out)
        have HBF := Lib.hid (HBB.out.grown HGG.out HBB.out.size (fun x hx => (HGL.out.own.lt x hx).1))
        go_roundw
        case rel => exact ⟨k + 1, some ⟨g6, 0, none⟩, some ⟨g, o, none⟩, cap6, c2, L ++ A2, A2, by omega, by go_num, by rw [List.length_append], rfl, HLA, HAA, Lib.hid HAP.out.1, Lib.hid HAP.out.2, Lib.hid (fun r hr => HAP.out.1.rows r (List.mem_append_right _ hr)), HBF⟩
        case measure => simp [intOf]; omega
    · have hkn : k = n := by omega
      subst hkn
      go_wp2
      go_ret
      exact ⟨a, c, L, rfl, HL.out, HG.out, HB.out⟩
end Go.Proofs.YtejjdfmobiegdaaDoor
