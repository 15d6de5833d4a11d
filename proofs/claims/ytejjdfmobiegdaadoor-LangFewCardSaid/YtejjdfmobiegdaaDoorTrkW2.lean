/- lang: addWords, walked. -/
import Derived.Test.YtejjdfmobiegdaaDoorTrkF2
set_option linter.unusedVariables false
namespace Go.Proofs.YtejjdfmobiegdaaDoor
open Go.RowKit
open Doc

/-- A word found is put behind the others. -/
theorem WSt.found {base : Nat} {w0 w w1 w2 : World} {la ba : Option Addr} {lc bc : Nat} {R : List RowL} {b : List Int} (h : WSt base w0 w la lc R ba bc b) (h0 : base ≤ w.heap.size) (h1 : Below w.heap.size w w1) {r : RowL} (hc : Cells w1 r.addr (nums r.row)) (ha : ∀ x, r.addr = some x → w.heap.size ≤ x.block ∧ x.block < w1.heap.size)
    {g' cap' : Nat} (ho : w2.ownsRow base 25 1 (.slice (some ⟨g', 0, none⟩) (R.length + 1) cap') (R.length + 1) (rowVs R ++ [.slice r.addr r.row.length r.cap])) (hg : w1.grownBy w2 (Value.slice la R.length lc).ownBlock) (hl : (Value.slice la R.length lc).ownBlock = some g' ∨ g' = w1.heap.size) :
    WSt base w0 w2 (some ⟨g', 0, none⟩) cap' (R ++ [r]) ba bc b ∧ WTo w w2 la (some ⟨g', 0, none⟩) ba [r] := by
  have hs1 := h1.size
  have hs2 := hg.size
  have hlow : ∀ k, (Value.slice la R.length lc).ownBlock = some k → base ≤ k := fun k hk => (own_block h.rows.own hk).1
  refine ⟨⟨(h.below.trans (h1.mono h0)).grown hg (by omega) hlow, h.rows.push h0 h1 hc ha ho hg hl, ?_, fun q hq x hx y hy => ?_⟩, ⟨by omega, fun k hk h3 h4 => ?_, fun x hx => ?_, fun q hq x hx => ?_⟩⟩
  · refine own_same h.own fun k hk hk2 => ?_
    obtain ⟨y, hy, rfl⟩ := ownBlock_eq hk
    refine (hg.block _ (by omega) fun e => ?_).trans (h1.block _ hk2)
    obtain ⟨x, hx, hxy⟩ := ownBlock_eq e.symm
    exact h.two hx hy hxy
  · rcases List.mem_append.1 hq with hq | hq
    · exact h.apart q hq x hx y hy
    · obtain rfl := List.mem_singleton.1 hq
      have h5 := ha x hx
      have h6 := (own_block h.own (g := y.block) (by rw [hy]; rfl)).2.1
      omega
  · refine (hg.block k (by omega) fun e => ?_).trans (h1.block k hk)
    obtain ⟨x, hx, hxy⟩ := ownBlock_eq e.symm
    exact h3 x hx hxy
  · cases hx
    rcases hl with hl | hl
    · obtain ⟨y, hy, hyb⟩ := ownBlock_eq hl
      exact .inl ⟨y, hy, hyb⟩
    · right
      show w.heap.size ≤ g'
      omega
  · obtain rfl := List.mem_singleton.1 hq
    exact (ha x hx).1
theorem take_step {q : Nat} (A B : List (List Int)) : A.take q ++ B.take (q - (A.take q).length) = (A ++ B).take q := by
  rw [List.take_append, List.length_take]
  congr 2
  omega
theorem WSt.nilb {base : Nat} {w0 w : World} {la ba : Option Addr} {lc bc : Nat} {R : List RowL} {b : List Int} (h : WSt base w0 w la lc R ba bc b) (hn : ba = none) : b = [] := by
  subst hn
  rcases h.own.2 with ⟨_, hz⟩ | ⟨g, cap, cur, hv, _⟩
  · exact List.length_eq_zero_iff.1 hz
  · injection hv with e; cases e

noncomputable def derB (ls : List Lay) (v : List Int) : Bool := @decide (Wd.Der (ls.map Lay.plain) [100] v) (Classical.propDecidable _)
theorem derB_iff {ls : List Lay} {v : List Int} : derB ls v = true ↔ Wd.Der (ls.map Lay.plain) [100] v := @decide_eq_true_iff _ (Classical.propDecidable _)
def AddEnd (P : List Int → Bool) (t most : Nat) (w0 w : World) (la : Option Addr) (R : List RowL) (ba : Option Addr) (bc : Nat) (k : Nat) (b : List Int) (e : Ending) (w' : World) : Prop :=
  ∃ (la' : Option Addr) (lc' : Nat) (N : List RowL), e = .returned (.slice la' (R ++ N).length lc') ∧ N.map (·.row) = (Al.wds P t k b).take (most - R.length) ∧ WSt w0.heap.size w0 w' la' lc' (R ++ N) ba bc b ∧ WTo w w' la la' ba N
theorem TrkB.bit {X : Trk} {E : List Nat} {t n : Nat} {b : List Int} (h : TrkB X E t n b) (hn : n ≤ 12) (hb : b.length ≤ n) (hbs : ∀ s ∈ b, 1 ≤ s ∧ s ≤ (t : Int)) : ((E.getD 0 0).testBit X.last = false → Al.wds (derB X.ls) t (n - b.length) b = []) ∧ ((E.getD 0 0).testBit X.last = true → b.length = n → derB X.ls b = true) := by
  have hL := h.leads hn hb hbs
  constructor
  · intro h0
    refine Al.wds_none fun v hv => ?_
    cases hd : derB X.ls v with
    | false => rfl
    | true => rw [hL.2 ⟨v, hv, derB_iff.1 hd⟩] at h0; cases h0
  · intro h1 hbn
    obtain ⟨v, hv, hd⟩ := hL.1 h1
    rw [show n - b.length = 0 by omega, Al.tl_zero, List.mem_singleton] at hv
    rw [hv] at hd
    exact derB_iff.2 hd
/-- Nothing is added. -/
theorem AddEnd.none {P : List Int → Bool} {t most k : Nat} {w0 w w' : World} {la : Option Addr} {lc : Nat} {R : List RowL} {ba : Option Addr} {bc : Nat} {b : List Int} (hw : WSt w0.heap.size w0 w la lc R ba bc b) (hb : Below w.heap.size w w') (h : most ≤ R.length ∨ Al.wds P t k b = []) : AddEnd P t most w0 w la R ba bc k b (.returned (.slice la R.length lc)) w' :=
  ⟨la, lc, [], by rw [List.append_nil], by
    rcases h with h | h
    · rw [show most - R.length = 0 by omega]; simp
    · rw [h]; simp, by rw [List.append_nil]; exact hw.later hw.below.size hb, WTo.later _ _ _ _ hb⟩

set_option maxRecDepth 100000 in
set_option maxHeartbeats 8000000 in
/-- There are enough of them, or there is none here. -/
theorem addw_stop (n : Nat) (P : List Int → Bool) (t most k : Nat) (X : Trk) (E : List Nat) (la : Option Addr) (lc : Nat) (R : List RowL) (ba : Option Addr) (bc : Nat) (b : List Int) (w0 w : World) (h9 : X.st.length = 9) (h104 : E.length = 104) (hE : ∀ x ∈ E, x < 8192) (hl : X.last < 13) (hW : WSt w0.heap.size w0 w la lc R ba bc b) (h : most ≤ R.length ∨ ((E.getD 0 0).testBit X.last = false ∧ Al.wds P t k b = [])) :
    Calls Tryd.prog 46 #[.slice la R.length lc, .agg (trkL (X.wen E)).toArray, .slice ba b.length bc, .int .i64 most] w (AddEnd P t most w0 w la R ba bc k b) := by
  have hQ : TrkQ (w.alloc (.cells (trkL (X.wen E)).toArray 81)) w.heap.size X E := ⟨heap_alloc_new w _, h9, h104⟩
  have hlen := len_trk (X := X.wen E) h9 h104
  have HQ := Lib.hid hQ.q
  have HLEN := Lib.hid hlen
  have HLE := Lib.hid fun W => leads_any X E W h9 h104 hE hl
  have HS := Lib.hid (show Below w.heap.size w (w.alloc (.cells (trkL (X.wen E)).toArray 81)) from (Below.refl _ _).alloc (Nat.le_refl _) _)
  have hy := heap_lt hQ.q
  clear hQ hlen
  generalize hZ : trkL (X.wen E) = Z at *
  clear hZ
  by_cases hmost : most ≤ R.length
  · have HF := Lib.hid (AddEnd.none (P := P) (t := t) (most := most) (k := k) hW HS.out (.inl hmost))
    have e1 : (most : Int) ≤ R.length := by omega
    clear hmost h HLE hy hE
    go_enter Tryd.func46, Tryd.ntmps46
    go_wp2
    go_ret
    exact HF.out
  · obtain ⟨hf, hw⟩ := h.resolve_left hmost
    have HF := Lib.hid fun W (hW2 : Below w.heap.size w W) => AddEnd.none (P := P) (t := t) (most := most) (k := k) hW hW2 (.inr hw)
    have e1 : ¬ (most : Int) ≤ R.length := by omega
    rw [hf] at HLE
    clear hmost h hE hf hw
    go_enter Tryd.func46, Tryd.ntmps46
    go_upto_region 1 with fail
    generalize w.alloc (.cells Z.toArray 81) = S at *
    generalize hB : w.heap.size = B at *
    go_wp2
    refine wp_load_row 81 (.tmp 5) rfl B rfl 81 _ (0, 0) _ HQ.out Tryd.underlying81 rfl (by rw [infoTrk, List.size_toArray, HLEN.out]) ?_
    go_wp2_with (go_at_call 56; refine (HLE.out _).mono ?_; rintro e w2 ⟨rfl, hb2⟩)
    have hbw : Below B w w2 := HS.out.trans (hb2.mono (by omega))
    have HFF := Lib.hid (HF.out w2 hbw)
    go_ret
    exact HFF.out
end Go.Proofs.YtejjdfmobiegdaaDoor
