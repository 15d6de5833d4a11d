/- A raw grammar that came in, opened. -/
import Derived.Test.YtdnlbmdmaiacaaaRaw
import Derived.WideShapes
import Derived.ChangeArms
import Derived.Deep.Matrix
import Derived.Lib.SmallJoins
namespace Go.Proofs.Ytdnlbmdmaiacaaa
open Go.RowKit Go.WideShapes
open Doc

theorem spot_none (W : World) (b o z : Nat) (u : Value) : ¬ W.cell? ((⟨b, o, some z⟩ : Addr).add 0) = some u := by
  have e : (⟨b, o, some z⟩ : Addr).add 0 = ⟨b, o, some z⟩ := by unfold Addr.add; rw [if_pos rfl]
  rw [e]
  unfold World.cell?
  split <;> simp
theorem array6 {α : Type} {cs : Array α} (h : cs.size = 6) : ∃ c0 c1 c2 c3 c4 c5, cs = #[c0, c1, c2, c3, c4, c5] := by
  obtain ⟨l⟩ := cs
  match l, h with
  | [c0, c1, c2, c3, c4, c5], _ => exact ⟨c0, c1, c2, c3, c4, c5, rfl⟩
set_option maxRecDepth 100000 in
theorem raw_struct : ∃ fs : Array Field, Try.prog.underlying 46 = some (.struct fs) ∧ (fs.toList.map fun f => (f.type, f.offset)) = [(3, 0), (3, 1), (3, 2), (3, 3), (44, 4), (9, 5)] ∧ Try.prog.cellsOf 46 = 6 :=
  ⟨_, Try.underlying46, by kernel_rfl, by kernel_rfl⟩
theorem wf_i64 {a : Int} (h : (Lit.int .i64 a).wf = true) : -9223372036854775808 ≤ a ∧ a ≤ 9223372036854775807 := by
  simp only [Lit.wf, Bool.and_eq_true, decide_eq_true_eq] at h
  exact h

/-- Numbers of a raw one are a machine's. -/
def RawWide (x : RawX) : Prop := (-9223372036854775808 ≤ x.pick ∧ x.pick ≤ 9223372036854775807) ∧ (-9223372036854775808 ≤ x.terms ∧ x.terms ≤ 9223372036854775807) ∧ (-9223372036854775808 ≤ x.nons ∧ x.nons ≤ 9223372036854775807) ∧ (-9223372036854775808 ≤ x.how ∧ x.how ≤ 9223372036854775807) ∧ x.word.size ≤ maxLen

set_option maxRecDepth 100000 in
theorem open_raw {W : World} {H : Type} {enc : TypeId × Value → H} {r : Reach} {b0 base : Nat} {sp : Bool} {v : Value} {d : DataW H} {p : List MemPlace} (hv : Value.okWide Try.prog W r b0 46 v) (h : DataW.Trod enc Try.prog W base (fun _ => true) sp 46 v d p) :
    ∃ x : RawX, v = x.v ∧ RawAt W x ∧ RawWide x := by
  obtain ⟨fs, hs, hf, hC⟩ := raw_struct
  obtain ⟨cs, rfl, hsz⟩ := okWide_struct hs hv
  obtain ⟨c0, c1, c2, c3, c4, c5, rfl⟩ := array6 (hsz.trans hC)
  obtain ⟨fuel, ht⟩ := h
  obtain ⟨xs, n, _, hx, _, hlen, hfs⟩ := DataW.trod_struct hs ht
  have hfl : fs.size = 6 := by have := congrArg List.length hf; simpa using this
  have field : ∀ (i : Nat) (t : TypeId) (c : Value), i < 6 → (fs.toList.map fun f => (f.type, f.offset))[i]? = some (t, i) → ([c0, c1, c2, c3, c4, c5] : List Value)[i]? = some c → Try.prog.cellsOf t = 1 → ∃ y, DataW.trod enc Try.prog W base (fun _ => true) sp n t [c] = some y := by
    intro i t c hi h1 h2 h3
    rw [List.getElem?_map] at h1
    obtain ⟨f, hf1, hf2⟩ := Option.map_eq_some_iff.1 h1
    simp only [Prod.mk.injEq] at hf2
    have h4 := hfs i f (by rw [← Array.getElem?_toList]; exact hf1)
    obtain ⟨y, hy⟩ : ∃ y, xs[i]? = some y := ⟨_, List.getElem?_eq_getElem (by omega)⟩
    rw [hy, hf2.1, hf2.2, h3] at h4
    refine ⟨y, ?_⟩
    rw [← h4]
    congr 1
    have e : (Value.cells (.agg #[c0, c1, c2, c3, c4, c5])).toList = [c0, c1, c2, c3, c4, c5] := rfl
    have hd : ([c0, c1, c2, c3, c4, c5] : List Value).drop i = c :: ([c0, c1, c2, c3, c4, c5] : List Value).drop (i + 1) := by
      obtain ⟨hl, hg⟩ := List.getElem?_eq_some_iff.1 h2
      rw [List.drop_eq_getElem_cons hl, hg]
    show [c] = List.take 1 (List.drop i [c0, c1, c2, c3, c4, c5])
    rw [hd]; rfl
  obtain ⟨y0, t0⟩ := field 0 3 c0 (by omega) (by rw [hf]; rfl) rfl (by kernel_rfl)
  obtain ⟨y1, t1⟩ := field 1 3 c1 (by omega) (by rw [hf]; rfl) rfl (by kernel_rfl)
  obtain ⟨y2, t2⟩ := field 2 3 c2 (by omega) (by rw [hf]; rfl) rfl (by kernel_rfl)
  obtain ⟨y3, t3⟩ := field 3 3 c3 (by omega) (by rw [hf]; rfl) rfl (by kernel_rfl)
  obtain ⟨y4, t4⟩ := field 4 44 c4 (by omega) (by rw [hf]; rfl) rfl (by kernel_rfl)
  obtain ⟨y5, t5⟩ := field 5 9 c5 (by omega) (by rw [hf]; rfl) rfl (by kernel_rfl)
  obtain ⟨a0, e0, _, w0⟩ := DataW.trod_int Try.underlying3 t0
  obtain ⟨a1, e1, _, w1⟩ := DataW.trod_int Try.underlying3 t1
  obtain ⟨a2, e2, _, w2⟩ := DataW.trod_int Try.underlying3 t2
  obtain ⟨a3, e3, _, w3⟩ := DataW.trod_int Try.underlying3 t3
  obtain ⟨s, e5, _, w5⟩ := DataW.trod_string Try.underlying9 t5
  simp only [List.cons.injEq, and_true] at e0 e1 e2 e3 e5
  subst e0 e1 e2 e3 e5
  rcases Go.Deep.open_int_rows Try.underlying44 Try.underlying35 Try.underlying3 (by kernel_rfl) (by kernel_rfl) t4 with ⟨e4, _⟩ | ⟨a, len, cap, A, L, C, Z, e4, hb, hl, hm, _, hr⟩
  · simp only [List.cons.injEq, and_true] at e4
    subst e4
    exact ⟨⟨a0, a1, a2, a3, [], none, 0, s⟩, rfl, ⟨.inl rfl, (by intro r hr; cases hr), (by intro r hr; cases hr)⟩, wf_i64 w0, wf_i64 w1, wf_i64 w2, wf_i64 w3, w5⟩
  · simp only [List.cons.injEq, and_true] at e4
    subst e4
    have hrow : ∀ j, j < len → Cells W (A j) (nums ((Z j).take (L j))) ∧ ((Z j).take (L j)).length = L j := fun j hj => by
      obtain ⟨h1, h2, h3, h4, h5, h6, h7⟩ := hr j (by omega)
      have hll : ((Z j).take (L j)).length = L j := by rw [List.length_take]; omega
      refine ⟨?_, hll⟩
      cases hA : A j with
      | none =>
        left
        have := h6 hA
        have h0 : L j = 0 := by omega
        rw [h0]; rfl
      | some a' =>
        obtain ⟨h8, h9⟩ := h7 a' hA
        rcases Nat.eq_zero_or_pos (L j) with h0 | h0
        · left; rw [h0]; rfl
        · right
          obtain ⟨ab, ao, ac⟩ := a'
          have hc0 := h9 0 (by omega)
          have hpos : ac = none := by
            cases ac with
            | none => rfl
            | some z => exact absurd hc0 (spot_none _ _ _ _ _)
          subst hpos
          have hadd : ∀ i, (⟨ab, ao, none⟩ : Addr).add i = ⟨ab, ao + i, none⟩ := fun i => by unfold Addr.add; split <;> simp_all
          refine ⟨ab, ao, rfl, World.block_lt_of_cell? W _ hc0, fun c u hc => ?_⟩
          unfold nums at hc
          rw [List.getElem?_map, List.getElem?_take] at hc
          split at hc
          · rename_i hcl
            have := h9 c (by omega)
            rw [hadd] at this
            rw [this]
            rw [List.getElem?_eq_getElem (by omega)] at hc
            rw [← hc]
            simp [List.getD, show c < (Z j).length by omega]
          · cases hc
    obtain ⟨ab, ao, ac⟩ := a
    refine ⟨⟨a0, a1, a2, a3, (List.range len).map fun j => ⟨A j, C j, (Z j).take (L j)⟩, some ⟨ab, ao, ac⟩, cap, s⟩, by simp [RawX.v], ⟨?_, ?_, ?_⟩, wf_i64 w0, wf_i64 w1, wf_i64 w2, wf_i64 w3, w5⟩
    · rcases Nat.eq_zero_or_pos len with h0 | h0
      · left; subst h0; rfl
      · right
        have hc0 := (hr 0 (by omega)).1
        have hpos : ac = none := by
          cases ac with
          | none => rfl
          | some z => exact absurd hc0 (spot_none _ _ _ _ _)
        subst hpos
        have hadd : ∀ i, (⟨ab, ao, none⟩ : Addr).add i = ⟨ab, ao + i, none⟩ := fun i => by unfold Addr.add; split <;> simp_all
        refine ⟨ab, ao, rfl, World.block_lt_of_cell? W _ hc0, fun c u hc => ?_⟩
        unfold rowVs at hc
        rw [List.getElem?_map, List.getElem?_map] at hc
        by_cases hcl : c < len
        · rw [List.getElem?_range hcl] at hc
          simp only [Option.map_some, Option.some.injEq] at hc
          have := (hr c (by omega)).1
          rw [hadd] at this
          rw [this, ← hc, (hrow c hcl).2]
        · rw [List.getElem?_eq_none (by simp; omega)] at hc
          cases hc
    · intro r hrm
      obtain ⟨j, hj, rfl⟩ := List.mem_map.1 hrm
      exact (hrow j (List.mem_range.1 hj)).1
    · intro r hrm y hy
      obtain ⟨j, hj, rfl⟩ := List.mem_map.1 hrm
      exact wf_i64 ((hr j (by have := List.mem_range.1 hj; omega)).2.2.2.2.1 y (List.mem_of_mem_take hy))

end Go.Proofs.Ytdnlbmdmaiacaaa
