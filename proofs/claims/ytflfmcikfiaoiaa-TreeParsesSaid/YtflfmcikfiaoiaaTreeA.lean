/- Trees: what Size, Check, isSymbol of the program give, and the document's own Size and CheckTree: contracts over any world. -/
import Derived.Test.YtflfmcikfiaoiaaTreeS
import Derived.Deep.RegionHeld3
import Derived.Deep.Cut
import Derived.Deep.CutBlock
set_option linter.unusedVariables false
namespace Go.Proofs.Ytflfmcikfiaoiaa
open Go.RowKit
open Doc

theorem box_belowT (w : World) (o : Obj) : Below w.heap.size w (w.alloc o) := (Below.refl _ _).alloc (Nat.le_refl _) _
theorem one_alloc (w : World) (o0 : Obj) : Below w.heap.size w (w.alloc o0) ∧ (w.alloc o0).heap.size = w.heap.size + 1 ∧ (w.alloc o0).heap[w.heap.size]? = some o0 :=
  ⟨(Below.refl _ _).alloc (Nat.le_refl _) _, by simp, heap_alloc_new w o0⟩
theorem twin_alloc (w : World) (o0 o1 : Obj) : Below w.heap.size w ((w.alloc o0).alloc o1) ∧ ((w.alloc o0).alloc o1).heap.size = w.heap.size + 2 ∧ ((w.alloc o0).alloc o1).heap[w.heap.size]? = some o0 ∧ ((w.alloc o0).alloc o1).heap[w.heap.size + 1]? = some o1 := by
  refine ⟨((Below.refl _ _).alloc (Nat.le_refl _) _).alloc (by simp) _, by simp, ?_, ?_⟩
  · rw [Below.heap_alloc _ _ _ (by simp)]; exact heap_alloc_new w o0
  · have := heap_alloc_new (w.alloc o0) o1; simpa using this

theorem tls_ne {ks : List Tl} (h : 0 < ks.length) : tls ks ≠ [] := by
  intro e
  have := congrArg List.length e
  rw [tls_len] at this
  simp at this
  omega
theorem kid_at {P : Nat → Prop} {w : World} {s p : Int} {a : Option Addr} {c : Nat} {ks : List Tl} (h : Lies P w (.mk s p a c ks)) {j : Nat} {k : Tl} (hj : ks[j]? = some k) :
    ∃ b off, a = some ⟨b, off, none⟩ ∧ b < w.heap.size ∧ P b ∧ w.cell? ⟨b, off + j * 3, none⟩ = some (.int .i64 k.sym) ∧ w.cell? ⟨b, off + j * 3 + 1, none⟩ = some (.int .i64 k.prod) ∧ w.cell? ⟨b, off + j * 3 + 2, none⟩ = some (.slice k.a k.kids.length k.c) := by
  have hjl := (List.getElem?_eq_some_iff.1 hj).1
  obtain ⟨b, off, ha, hb, hc⟩ := h.cells.get (tls_ne (by omega))
  obtain ⟨h0, h1, h2⟩ := tls_at ks j k hj
  refine ⟨b, off, ha, hb, h.blk (fun e => by rw [e] at hjl; simp at hjl) _ ha, hc _ _ h0, ?_, ?_⟩
  · rw [Nat.add_assoc]; exact hc _ _ h1
  · rw [Nat.add_assoc]; exact hc _ _ h2
theorem size_kid {s p : Int} {a : Option Addr} {c : Nat} {ks : List Tl} {k : Tl} (hk : k ∈ ks) : sizeT k.plain < sizeT (Tl.mk s p a c ks).plain := by
  rw [Tl.plain_mk, sizeT]
  have := sizeK_mem (List.mem_map_of_mem (f := Tl.plain) hk)
  omega
theorem size_len (s p : Int) (a : Option Addr) (c : Nat) (ks : List Tl) : ks.length < sizeT (Tl.mk s p a c ks).plain := by
  rw [Tl.plain_mk, sizeT]
  have := sizeK_len (ks.map Tl.plain)
  rw [List.length_map] at this
  omega
theorem sizeK_drop (ks : List Tr) (j : Nat) {k : Tr} (hj : ks[j]? = some k) : sizeK (ks.take (j + 1)) = sizeK (ks.take j) + sizeT k := by
  rw [List.take_add_one, hj, sizeK_app]
  simp [sizeK]
theorem sizeK_take : ∀ (ks : List Tr) (j : Nat), sizeK (ks.take j) ≤ sizeK ks
  | [], j => by simp [sizeK]
  | t :: l, 0 => by simp [sizeK]
  | t :: l, j + 1 => by rw [List.take_succ_cons]; simp only [sizeK]; have := sizeK_take l j; omega
theorem map_at {ks : List Tl} {j : Nat} {k : Tl} (h : ks[j]? = some k) : (ks.map Tl.plain)[j]? = some k.plain := by rw [List.getElem?_map, h]; rfl

set_option maxHeartbeats 1000000 in
theorem rsize_any (t : Tl) : ∀ (P : Nat → Prop) (w : World), Lies P w t → sizeT t.plain ≤ 1000000000 →
    Calls Try.prog 42 #[t.v] w fun e w' => e = .returned (.int .i64 (sizeT t.plain)) ∧ Below w.heap.size w w' := by
  induction t using Tl.ind with
  | h s p a c ks ih =>
    intro P w hl hz
    have HIH := Lib.hid ih
    have hkl := size_len s p a c ks
    have HSZ := Lib.hid (show sizeT (Tl.mk s p a c ks).plain = 1 + sizeK (ks.map Tl.plain) by rw [Tl.plain_mk, sizeT])
    have HZ := Lib.hid hz
    obtain ⟨hbS, hsS, q0⟩ := one_alloc w (.cells #[.int .i64 s, .int .i64 p, .slice a ks.length c] 71)
    have HB := Lib.hid hbS
    have HQ := Lib.hid q0
    have HL := Lib.hid (hl.under hbS)
    have hks : ks.length ≤ 1000000000 := by omega
    clear ih hz hbS q0 hl hkl hsS
    show Calls _ _ #[.agg #[.int .i64 s, .int .i64 p, .slice a ks.length c]] _ _
    go_enter Try.func42, Try.ntmps42
    go_upto_region 1 with fail
    generalize w.alloc (.cells #[.int .i64 s, .int .i64 p, .slice a ks.length c] 71) = S at *
    have c2 := (blk_cell (i := 2) HQ.out rfl).1
    have l0 := heap_lt HQ.out
    go_wp2
    go_loopw [3, 9] (fun n i wr => ∃ k : Nat, k ≤ ks.length ∧ i = .int .i64 k ∧ n = .int .i64 (1 + sizeK ((ks.map Tl.plain).take k) : Nat) ∧ Below S.heap.size S wr) (fun _ i _ => ks.length - (intOf i).toNat)
    case atStart => exact ⟨0, Nat.zero_le _, rfl, by simp [sizeK], Below.refl _ _⟩
    case round =>
      obtain ⟨k, hk, rfl, rfl, hbe⟩ := hrel
      by_cases hlt : k < ks.length
      · obtain ⟨kt, hkt⟩ : ∃ kt, ks[k]? = some kt := ⟨_, List.getElem?_eq_getElem hlt⟩
        have hmem := List.mem_of_getElem? hkt
        obtain ⟨b, off, rfl, hb, _, x0, x1, x2⟩ := kid_at (HL.out.under hbe) hkt
        have hlk := (HL.out.under hbe).kid kt hmem
        have hzk := size_kid (s := s) (p := p) (a := some ⟨b, off, none⟩) (c := c) hmem
        have hstep := sizeK_drop (ks.map Tl.plain) k (map_at hkt)
        have htake := sizeK_take (ks.map Tl.plain) (k + 1)
        have hz1 := HZ.out
        have hz2 := HSZ.out
        have e1 : (k : Int) < ks.length := by omega
        have hbA := box_belowT wr (.cells #[.int .i64 kt.sym, .int .i64 kt.prod, .slice kt.a kt.kids.length kt.c] 71)
        have HC := Lib.hid (HIH.out kt hmem P _ (hlk.under hbA) (by omega))
        have HBE := Lib.hid (hbe.trans (hbA.mono hbe.size))
        have HST := Lib.hid hstep
        have hsum : 1 + sizeK ((ks.map Tl.plain).take k) + sizeT kt.plain ≤ 1000000000 := by omega
        clear hmem hlk hzk hstep htake hz1 hz2 hbA hbe hkt
        unfold Tl.v at HC
        generalize sizeK ((ks.map Tl.plain).take k) = m at *
        generalize sizeT kt.plain = m' at *
        have hsum' : (1 : Int) + m + m' ≤ 1000000000 := by omega
        obtain ⟨ks_, kp, ka, kc, kk⟩ := kt
        simp only [Tl.sym, Tl.prod, Tl.a, Tl.c, Tl.kids] at *
        go_wp2_with (go_at_call 42; refine HC.out.mono ?_; rintro e w4 ⟨rfl, hb4⟩)
        exact ⟨⟨k + 1, by omega, by go_num, by rw [HST.out]; push_cast; congr 1; omega, HBE.out.trans (hb4.mono HBE.out.size)⟩, by simp [intOf]; omega⟩
      · have e1 : ¬ (k : Int) < ks.length := by omega
        obtain rfl : k = ks.length := by omega
        go_wp2
        go_ret
        exact ⟨by rw [HSZ.out, List.take_of_length_le (by simp)]; rfl, HB.out.trans (hbe.mono (Nat.le_of_lt l0))⟩

end Go.Proofs.Ytflfmcikfiaoiaa
