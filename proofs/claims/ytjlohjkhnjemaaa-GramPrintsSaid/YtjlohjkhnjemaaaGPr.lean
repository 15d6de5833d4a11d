/- GramPrints: walked. -/
import Derived.Test.YtjlohjkhnjemaaaPlayGX
import Derived.Test.YtjlohjkhnjemaaaRPrint
import Derived.Test.YtjlohjkhnjemaaaFind
import Derived.Test.YtjlohjkhnjemaaaText
import Derived.Deep.Cut
import Derived.Deep.RegionHeld3
import Derived.Deep.RegionLaw
set_option linter.unusedVariables false
namespace Go.Proofs.Ytjlohjkhnjemaaa
open Go.RowKit
open Doc

/-- A zero grammar, alone in its block. -/
def Zeg (W : World) (B : Nat) : Prop := W.heap[B]? = some (.cells #[.slice none 0 0, .slice none 0 0, .slice none 0 0] 28)
theorem Zeg.cells {W : World} {B : Nat} (h : Zeg W B) : W.cell? ⟨B, 0, none⟩ = some (.slice none 0 0) ∧ W.cell? ⟨B, 1, none⟩ = some (.slice none 0 0) ∧ W.cell? ⟨B, 2, none⟩ = some (.slice none 0 0) ∧ W.frozen? ⟨B, 0, none⟩ = false ∧ W.frozen? ⟨B, 1, none⟩ = false ∧ W.frozen? ⟨B, 2, none⟩ = false ∧ B < W.heap.size := ⟨(blk_cell (i := 0) h rfl).1, (blk_cell (i := 1) h rfl).1, (blk_cell (i := 2) h rfl).1, (blk_cell (i := 0) h rfl).2, (blk_cell (i := 1) h rfl).2, (blk_cell (i := 2) h rfl).2, heap_lt h⟩
theorem Zeg.new (W : World) : Zeg (W.alloc (.cells #[.slice none 0 0, .slice none 0 0, .slice none 0 0] 28)) W.heap.size := heap_alloc_new W _
theorem Zeg.alloc {W : World} {B : Nat} (h : Zeg W B) (o : Obj) : Zeg (W.alloc o) B := (Below.heap_alloc _ _ _ (heap_lt h)).trans h
theorem Zeg.drew {W : World} {B : Nat} (h : Zeg W B) : Zeg W.drew B := h
theorem Zeg.next (W : World) : Zeg ((W.alloc (.cells #[.slice none 0 0, .slice none 0 0, .slice none 0 0] 28)).alloc (.cells #[.slice none 0 0, .slice none 0 0, .slice none 0 0] 28)) (W.heap.size + 1) := by have h := Zeg.new (W.alloc (.cells #[.slice none 0 0, .slice none 0 0, .slice none 0 0] 28)); rwa [show (W.alloc (.cells #[.slice none 0 0, .slice none 0 0, .slice none 0 0] 28)).heap.size = W.heap.size + 1 by simp] at h
theorem Zeg.below {W W' : World} {B : Nat} (h : Zeg W B) (hb : Below W.heap.size W W') : Zeg W' B := (hb.block _ (heap_lt h)).trans h

theorem gmid_fits {g : Gr} (h : MidG g) : Fits g := ⟨by have := h.t.1; omega, by have := h.n.1; omega, by have := h.p.1; omega, fun p hp => by have := (h.p.2 p hp).2.1; omega⟩
theorem gmid_small {g : Gr} (h : MidG g) : SmallG g := fun p hp => ⟨(h.p.2 p hp).1, (h.p.2 p hp).2.2⟩
theorem gmid_t {g : Gr} (h : MidG g) : ∀ x ∈ g.terms, x.length ≤ 1000000 := fun x hx => by have := h.t.2 x hx; omega
theorem gmid_n {g : Gr} (h : MidG g) : ∀ x ∈ g.nons, x.length ≤ 1000000 := fun x hx => by have := h.n.2 x hx; omega
theorem box_belowG (w : World) (o : Obj) : Below w.heap.size w (w.alloc o) := (Below.refl _ _).alloc (Nat.le_refl _) _
theorem twin_allocG (w : World) (o0 o1 : Obj) : Below w.heap.size w ((w.alloc o0).alloc o1) ∧ ((w.alloc o0).alloc o1).heap.size = w.heap.size + 2 ∧ ((w.alloc o0).alloc o1).heap[w.heap.size]? = some o0 ∧ ((w.alloc o0).alloc o1).heap[w.heap.size + 1]? = some o1 := by
  refine ⟨((Below.refl _ _).alloc (Nat.le_refl _) _).alloc (by simp) _, by simp, ?_, ?_⟩
  · rw [Below.heap_alloc _ _ _ (by simp)]; exact heap_alloc_new w o0
  · have := heap_alloc_new (w.alloc o0) o1; simpa using this
theorem gbelow_up {X W W' : World} (h : Below X.heap.size X W) (k : Below W.heap.size W W') : Below X.heap.size X W' := h.trans (k.mono h.size)
theorem gbelow_al {X W : World} (h : Below X.heap.size X W) (o : Obj) : Below X.heap.size X (W.alloc o) := h.alloc h.size o
theorem gbelow_dr {X W : World} (h : Below X.heap.size X W) : Below X.heap.size X W.drew := h.drew
/-- A row that begins with no slice does not lie in a zero grammar's block. -/
theorem cells_keepG {w w' : World} {a : Option Addr} {xs : List Value} {K : Nat} (h : Cells w a xs) (hz : Zeg w K) (h0 : ∀ u, xs[0]? = some u → u ≠ .slice none 0 0) (hs : w.heap.size ≤ w'.heap.size) (hf : ∀ b, b ≠ K → w'.heap[b]? = w.heap[b]?) : Cells w' a xs := by
  rcases h with h | ⟨b, off, rfl, hb, hc⟩
  · exact .inl h
  by_cases hx : xs = []
  · exact .inl hx
  have hl : 0 < xs.length := List.length_pos_iff.2 hx
  have hbK : b ≠ K := by
    rintro rfl
    have h1 := hc 0 _ (List.getElem?_eq_getElem hl)
    obtain ⟨z0, z1, z2, -, -, -, -⟩ := hz.cells
    refine h0 _ (List.getElem?_eq_getElem hl) ?_
    have hlt : off + 0 < 3 := by
      rcases Nat.lt_or_ge (off + 0) 3 with h | h
      · exact h
      · exfalso
        rw [cell_of_row w b (off + 0) _ _ _ hz] at h1
        obtain ⟨hb', -⟩ := Array.getElem?_eq_some_iff.1 h1
        have hb2 : off + 0 < 3 := by simpa using hb'
        omega
    obtain h | h | h : off + 0 = 0 ∨ off + 0 = 1 ∨ off + 0 = 2 := by omega
    · rw [h] at h1; exact Option.some.inj (h1.symm.trans z0)
    · rw [h] at h1; exact Option.some.inj (h1.symm.trans z1)
    · rw [h] at h1; exact Option.some.inj (h1.symm.trans z2)
  exact .inr ⟨b, off, rfl, Nat.lt_of_lt_of_le hb hs, fun j u hj => (World.cell?_of_block (w := w) (hf b hbK)).trans (hc j u hj)⟩
theorem gram_keepG {w w' : World} {v : Value} {g : Gr} {K : Nat} (h : GramAt w v g) (hz : Zeg w K) (hs : w.heap.size ≤ w'.heap.size) (hf : ∀ b, b ≠ K → w'.heap[b]? = w.heap[b]?) : GramAt w' v g := by
  obtain ⟨a, b, c, ca, cb, cc, ls, hv, hp, h1, h2, h3, h4, h5⟩ := h
  refine ⟨a, b, c, ca, cb, cc, ls, hv, hp, cells_keepG h1 hz ?_ hs hf, cells_keepG h2 hz ?_ hs hf, cells_keepG h3 hz ?_ hs hf, fun p hp => cells_keepG (h4 p hp) hz ?_ hs hf, h5⟩
  · intro u hu; unfold strs at hu; rw [List.getElem?_map] at hu; cases hx : g.terms[0]? with
    | none => rw [hx] at hu; cases hu
    | some x => rw [hx] at hu; cases hu; simp
  · intro u hu; unfold strs at hu; rw [List.getElem?_map] at hu; cases hx : g.nons[0]? with
    | none => rw [hx] at hu; cases hu
    | some x => rw [hx] at hu; cases hu; simp
  · intro u hu
    cases ls with
    | nil => simp [lays] at hu
    | cons p l =>
      have := (lays_at (p :: l) 0 p rfl).1
      rw [show (0 * 2 : Nat) = 0 from rfl] at this
      rw [this] at hu; cases hu; simp
  · intro u hu; unfold nums at hu; rw [List.getElem?_map] at hu; cases hx : p.right[0]? with
    | none => rw [hx] at hu; cases hu
    | some x => rw [hx] at hu; cases hu; simp
/-- Two grammars in their boxes. -/
structure Tg (S W : World) (B1 B2 : Nat) (p0 p1 p2 q0 q1 q2 : Value) (g h : Gr) : Prop where
  k : Below S.heap.size S W
  t : W.heap[B1]? = some (.cells #[p0, p1, p2] 28)
  u : W.heap[B2]? = some (.cells #[q0, q1, q2] 28)
  l1 : GramAt W (.agg #[p0, p1, p2]) g
  l2 : GramAt W (.agg #[q0, q1, q2]) h
/-- Both boxes made behind the calls. -/
theorem tg_aa {S w3 w4 : World} {p0 p1 p2 q0 q1 q2 : Value} {g h : Gr} (hS : Below S.heap.size S w4) (h34 : Below w3.heap.size w3 w4) (hl1 : GramAt w3 (.agg #[p0, p1, p2]) g) (hl2 : GramAt w4 (.agg #[q0, q1, q2]) h) :
    Tg S ((w4.alloc (.cells #[p0, p1, p2] 28)).alloc (.cells #[q0, q1, q2] 28)) w4.heap.size (w4.heap.size + 1) p0 p1 p2 q0 q1 q2 g h ∧
    Tg S ((w4.alloc (.cells #[q0, q1, q2] 28)).alloc (.cells #[p0, p1, p2] 28)) (w4.heap.size + 1) w4.heap.size p0 p1 p2 q0 q1 q2 g h := by
  have k1 := hl1.below h34
  constructor
  · obtain ⟨hb, _, z0, z1⟩ := twin_allocG w4 (.cells #[p0, p1, p2] 28) (.cells #[q0, q1, q2] 28)
    exact ⟨gbelow_up hS hb, z0, z1, k1.below hb, hl2.below hb⟩
  · obtain ⟨hb, _, z0, z1⟩ := twin_allocG w4 (.cells #[q0, q1, q2] 28) (.cells #[p0, p1, p2] 28)
    exact ⟨gbelow_up hS hb, z1, z0, k1.below hb, hl2.below hb⟩
/-- One box made ahead of the last call. -/
theorem tg_sa {S w3 w4 : World} {p0 p1 p2 q0 q1 q2 : Value} {g h : Gr} {K : Nat} (hS : Below S.heap.size S w4) (h34 : Below w3.heap.size w3 w4) (hl1 : GramAt w3 (.agg #[p0, p1, p2]) g) (hl2 : GramAt w4 (.agg #[q0, q1, q2]) h) (hz : Zeg w4 K) (hK : S.heap.size ≤ K) :
    Tg S ((((w4.setCell ⟨K, 0, none⟩ p0).setCell ⟨K, 1, none⟩ p1).setCell ⟨K, 2, none⟩ p2).alloc (.cells #[q0, q1, q2] 28)) K w4.heap.size p0 p1 p2 q0 q1 q2 g h ∧
    Tg S ((((w4.setCell ⟨K, 0, none⟩ q0).setCell ⟨K, 1, none⟩ q1).setCell ⟨K, 2, none⟩ q2).alloc (.cells #[p0, p1, p2] 28)) w4.heap.size K p0 p1 p2 q0 q1 q2 g h := by
  have k1 := hl1.below h34
  constructor
  · have hz3 := store3 hz p0 p1 p2
    have hb3 := store3_below hS hK p0 p1 p2
    have hf := fun b => store3_far (w := w4) (b := K) p0 p1 p2 b
    have hs : (((w4.setCell ⟨K, 0, none⟩ p0).setCell ⟨K, 1, none⟩ p1).setCell ⟨K, 2, none⟩ p2).heap.size = w4.heap.size := by simp
    generalize ((w4.setCell ⟨K, 0, none⟩ p0).setCell ⟨K, 1, none⟩ p1).setCell ⟨K, 2, none⟩ p2 = W at *
    have hA := box_belowG W (.cells #[q0, q1, q2] 28)
    have hn := heap_alloc_new W (.cells #[q0, q1, q2] 28)
    rw [hs] at hn
    exact ⟨gbelow_up hb3 hA, (hA.block _ (heap_lt hz3)).trans hz3, hn, (gram_keepG k1 hz (by omega) hf).below hA, (gram_keepG hl2 hz (by omega) hf).below hA⟩
  · have hz3 := store3 hz q0 q1 q2
    have hb3 := store3_below hS hK q0 q1 q2
    have hf := fun b => store3_far (w := w4) (b := K) q0 q1 q2 b
    have hs : (((w4.setCell ⟨K, 0, none⟩ q0).setCell ⟨K, 1, none⟩ q1).setCell ⟨K, 2, none⟩ q2).heap.size = w4.heap.size := by simp
    generalize ((w4.setCell ⟨K, 0, none⟩ q0).setCell ⟨K, 1, none⟩ q1).setCell ⟨K, 2, none⟩ q2 = W at *
    have hA := box_belowG W (.cells #[p0, p1, p2] 28)
    have hn := heap_alloc_new W (.cells #[p0, p1, p2] 28)
    rw [hs] at hn
    exact ⟨gbelow_up hb3 hA, hn, (hA.block _ (heap_lt hz3)).trans hz3, (gram_keepG k1 hz (by omega) hf).below hA, (gram_keepG hl2 hz (by omega) hf).below hA⟩
/-- Both boxes made ahead of the last call. -/
theorem tg_ss {S w3 w4 : World} {p0 p1 p2 q0 q1 q2 : Value} {g h : Gr} {K1 K2 : Nat} (hS : Below S.heap.size S w4) (h34 : Below w3.heap.size w3 w4) (hl1 : GramAt w3 (.agg #[p0, p1, p2]) g) (hl2 : GramAt w4 (.agg #[q0, q1, q2]) h) (hz1 : Zeg w4 K1) (hz2 : Zeg w4 K2) (hne : K1 ≠ K2) (hK1 : S.heap.size ≤ K1) (hK2 : S.heap.size ≤ K2) :
    Tg S ((((((w4.setCell ⟨K1, 0, none⟩ p0).setCell ⟨K1, 1, none⟩ p1).setCell ⟨K1, 2, none⟩ p2).setCell ⟨K2, 0, none⟩ q0).setCell ⟨K2, 1, none⟩ q1).setCell ⟨K2, 2, none⟩ q2) K1 K2 p0 p1 p2 q0 q1 q2 g h := by
  have k1 := hl1.below h34
  have hz3 := store3 hz1 p0 p1 p2
  have hb3 := store3_below hS hK1 p0 p1 p2
  have hf := fun b => store3_far (w := w4) (b := K1) p0 p1 p2 b
  have hs : (((w4.setCell ⟨K1, 0, none⟩ p0).setCell ⟨K1, 1, none⟩ p1).setCell ⟨K1, 2, none⟩ p2).heap.size = w4.heap.size := by simp
  generalize ((w4.setCell ⟨K1, 0, none⟩ p0).setCell ⟨K1, 1, none⟩ p1).setCell ⟨K1, 2, none⟩ p2 = W at *
  have hzW : Zeg W K2 := (hf K2 (Ne.symm hne)).trans hz2
  have g1 := gram_keepG k1 hz1 (by omega) hf
  have g2 := gram_keepG hl2 hz1 (by omega) hf
  have hz4 := store3 hzW q0 q1 q2
  have hb4 := store3_below hb3 hK2 q0 q1 q2
  have hf2 := fun b => store3_far (w := W) (b := K2) q0 q1 q2 b
  have hs2 : (((W.setCell ⟨K2, 0, none⟩ q0).setCell ⟨K2, 1, none⟩ q1).setCell ⟨K2, 2, none⟩ q2).heap.size = W.heap.size := by simp
  generalize ((W.setCell ⟨K2, 0, none⟩ q0).setCell ⟨K2, 1, none⟩ q1).setCell ⟨K2, 2, none⟩ q2 = W2 at *
  exact ⟨hb4, (hf2 K1 hne).trans hz3, hz4, gram_keepG g1 hzW (by omega) hf2, gram_keepG g2 hzW (by omega) hf2⟩

set_option maxRecDepth 100000 in
set_option maxHeartbeats 20000000 in
theorem gramPrints_walk (x y : RawX) (sym : Int) (name : ByteArray) (w : World) (hx : RawAt w x) (hwd : RawWide x) (hy : RawAt w y) (hwy : RawWide y) (hsy : -9223372036854775808 ≤ sym ∧ sym ≤ 9223372036854775807) (hnm : name.size ≤ maxLen) :
    Calls Try.prog 3 #[x.v, y.v, .int .i64 sym, .string name] w fun e w' => e = .returned (.bool true) ∧ Below w.heap.size w w' := by
  have hGX := Lib.hid (fun W h => grammar_any x W h hwd)
  have hGY := Lib.hid (fun W h => grammar_any y W h hwy)
  have HX := Lib.hid hx
  have HY := Lib.hid hy
  have HWK := Lib.hid fun W => wakes_any W
  have HSYM := Lib.hid hsy
  have HTX : Hid (∀ W : World, Calls Try.prog 20 #[.string name, .int .i64 4] W fun e w' => e = .returned (.string (name.extract 0 (min name.size 4))) ∧ w' = W) := Lib.hid fun W => cut9_any name 4 W hnm (by omega)
  clear hx hwd hy hwy hsy hnm
  obtain ⟨xp, xt, xn, xh, xrows, xa, xc, xword⟩ := x
  obtain ⟨yp, yt, yn, yh, yrows, ya, yc, yword⟩ := y
  unfold RawX.v at *
  simp only at *
  obtain ⟨hbS, -, qX, qY⟩ := twin_allocG w (.cells #[.int .i64 xp, .int .i64 xt, .int .i64 xn, .int .i64 xh, .slice xa xrows.length xc, .string xword] 24) (.cells #[.int .i64 yp, .int .i64 yt, .int .i64 yn, .int .i64 yh, .slice ya yrows.length yc, .string yword] 24)
  have HBG := Lib.hid hbS
  have HQX := Lib.hid qX
  have HQY := Lib.hid qY
  clear hbS qX qY
  go_enter Try.func3, Try.ntmps3
  go_upto_region 1 with fail
  generalize (w.alloc (.cells #[.int .i64 xp, .int .i64 xt, .int .i64 xn, .int .i64 xh, .slice xa xrows.length xc, .string xword] 24)).alloc (.cells #[.int .i64 yp, .int .i64 yt, .int .i64 yn, .int .i64 yh, .slice ya yrows.length yc, .string yword] 24) = S at *
  have hsz : ∃ BX BY, w.heap.size = BX ∧ w.heap.size + 1 = BY := ⟨_, _, rfl, rfl⟩
  obtain ⟨BX, BY, hBX, hBY⟩ := hsz
  rw [hBY] at HQY ⊢
  rw [hBX] at HQX ⊢
  clear hBX hBY
  have HOF1 := Lib.hid fun W (hW : Hid (Below S.heap.size S W)) => hGX.out W ((HX.out.below HBG.out).below hW.out)
  have HOF2 := Lib.hid fun W (hW : Hid (Below S.heap.size S W)) => hGY.out W ((HY.out.below HBG.out).below hW.out)
  have HSL : Hid (∀ F : World, Hid (Below S.heap.size S F) → ((F.cell? ⟨BX, 0, none⟩ = some (.int .i64 xp) ∧ F.cell? ⟨BX, 1, none⟩ = some (.int .i64 xt) ∧ F.cell? ⟨BX, 2, none⟩ = some (.int .i64 xn) ∧ F.cell? ⟨BX, 3, none⟩ = some (.int .i64 xh) ∧ F.cell? ⟨BX, 4, none⟩ = some (.slice xa xrows.length xc) ∧ F.cell? ⟨BX, 5, none⟩ = some (.string xword)) ∧ (F.cell? ⟨BY, 0, none⟩ = some (.int .i64 yp) ∧ F.cell? ⟨BY, 1, none⟩ = some (.int .i64 yt) ∧ F.cell? ⟨BY, 2, none⟩ = some (.int .i64 yn) ∧ F.cell? ⟨BY, 3, none⟩ = some (.int .i64 yh) ∧ F.cell? ⟨BY, 4, none⟩ = some (.slice ya yrows.length yc) ∧ F.cell? ⟨BY, 5, none⟩ = some (.string yword))) ∧ Hid (Below S.heap.size S F)) := Lib.hid fun F h => by
    have z1 := (h.out.block _ (heap_lt HQX.out)).trans HQX.out
    have z2 := (h.out.block _ (heap_lt HQY.out)).trans HQY.out
    exact ⟨⟨⟨(blk_cell z1 rfl).1, (blk_cell z1 rfl).1, (blk_cell z1 rfl).1, (blk_cell z1 rfl).1, (blk_cell z1 rfl).1, (blk_cell z1 rfl).1⟩, ⟨(blk_cell z2 rfl).1, (blk_cell z2 rfl).1, (blk_cell z2 rfl).1, (blk_cell z2 rfl).1, (blk_cell z2 rfl).1, (blk_cell z2 rfl).1⟩⟩, h⟩
  have HSK : Hid (∀ W W' : World, Hid (Below S.heap.size S W) → Below W.heap.size W W' → ((W'.cell? ⟨BX, 0, none⟩ = some (.int .i64 xp) ∧ W'.cell? ⟨BX, 1, none⟩ = some (.int .i64 xt) ∧ W'.cell? ⟨BX, 2, none⟩ = some (.int .i64 xn) ∧ W'.cell? ⟨BX, 3, none⟩ = some (.int .i64 xh) ∧ W'.cell? ⟨BX, 4, none⟩ = some (.slice xa xrows.length xc) ∧ W'.cell? ⟨BX, 5, none⟩ = some (.string xword)) ∧ (W'.cell? ⟨BY, 0, none⟩ = some (.int .i64 yp) ∧ W'.cell? ⟨BY, 1, none⟩ = some (.int .i64 yt) ∧ W'.cell? ⟨BY, 2, none⟩ = some (.int .i64 yn) ∧ W'.cell? ⟨BY, 3, none⟩ = some (.int .i64 yh) ∧ W'.cell? ⟨BY, 4, none⟩ = some (.slice ya yrows.length yc) ∧ W'.cell? ⟨BY, 5, none⟩ = some (.string yword))) ∧ Hid (Below S.heap.size S W')) := Lib.hid fun W W' h k => HSL.out W' (Lib.hid (h.out.trans (k.mono h.out.size)))
  have HB33 := Lib.hid (Below.refl S.heap.size S)
  have HAL : Hid (∀ (W : World) (o : Obj), Hid (Below S.heap.size S W) → Hid (Below S.heap.size S (W.alloc o))) := Lib.hid fun W o h => Lib.hid (h.out.alloc h.out.size o)
  have HSE : Hid (∀ (W : World) (p : Addr) (u : Value), Hid (Below S.heap.size S W) → S.heap.size ≤ p.block → Hid (Below S.heap.size S (W.setCell p u))) := Lib.hid fun W p u h hp => Lib.hid (h.out.setCell hp u)
  have HDR : Hid (∀ W : World, Hid (Below S.heap.size S W) → Hid (Below S.heap.size S W.drew)) := Lib.hid fun W h => Lib.hid h.out.drew
  obtain ⟨⟨⟨g0, g1, g2, g3, g4, g5⟩, ⟨e0, e1, e2, e3, e4, e5⟩⟩, -⟩ := HSL.out _ HB33
  have lG := heap_lt HQX.out
  have lE := heap_lt HQY.out
  clear hGX hGY HX HY
  go_cut [9, 10] from 22 to 25 (fun v1 v2 W => ∃ (B1 B2 : Nat) (p0 p1 p2 q0 q1 q2 : Option Addr) (m0 m1 m2 k0 k1 k2 r0 r1 r2 o0 o1 o2 : Nat) (g h : Gr), v1 = .pointer (some ⟨B1, 0, none⟩) ∧ v2 = .pointer (some ⟨B2, 0, none⟩) ∧ Hid (Tg S W B1 B2 (.slice p0 m0 k0) (.slice p1 m1 k1) (.slice p2 m2 k2) (.slice q0 r0 o0) (.slice q1 r1 o1) (.slice q2 r2 o2) g h) ∧ Hid (MidG g) ∧ Hid (MidG h))
  case first =>
    go_region_law (first
        | (go_simp; go_at_call 12; first
            | ((with_reducible refine (HOF1.out _ (by repeat (first | assumption | (with_reducible refine HAL.out _ _ ?_) | (with_reducible refine HDR.out _ ?_) | (with_reducible refine HSE.out _ _ _ ?_ (by simp; omega))))).mono ?_); rintro e w3 ⟨hb3, p0, p1, p2, m0, m1, m2, k0, k1, k2, g, rfl, hg, hm⟩; have K3 : Hid (Below S.heap.size S w3) := (HSK.out _ _ (by repeat (first | assumption | (with_reducible refine HAL.out _ _ ?_) | (with_reducible refine HDR.out _ ?_) | (with_reducible refine HSE.out _ _ _ ?_ (by simp; omega)))) hb3).2; obtain ⟨⟨⟨g30, g31, g32, g33, g34, g35⟩, ⟨e30, e31, e32, e33, e34, e35⟩⟩, -⟩ := HSL.out _ K3; have lG3 : BX < w3.heap.size := Nat.lt_of_lt_of_le lG K3.out.size; have lE3 : BY < w3.heap.size := Nat.lt_of_lt_of_le lE K3.out.size
               (first | (have Z0 : Zeg w3 (S.heap.size) := Zeg.below (Zeg.new _) hb3; obtain ⟨z00, z01, z02, z0f, z0g, z0h, z0l⟩ := Z0.cells) | (have Z0 : Zeg w3 (S.heap.size) := Zeg.below ((Zeg.new _).drew) hb3; obtain ⟨z00, z01, z02, z0f, z0g, z0h, z0l⟩ := Z0.cells) | (have Z0 : Zeg w3 (S.heap.size) := Zeg.below ((Zeg.new _).alloc _) hb3; obtain ⟨z00, z01, z02, z0f, z0g, z0h, z0l⟩ := Z0.cells) | (have Z0 : Zeg w3 (S.heap.size) := Zeg.below (((Zeg.new _).alloc _).drew) hb3; obtain ⟨z00, z01, z02, z0f, z0g, z0h, z0l⟩ := Z0.cells) | skip)
               (first | (have Z1 : Zeg w3 (S.heap.size + 1) := Zeg.below (Zeg.next _) hb3; obtain ⟨z10, z11, z12, z1f, z1g, z1h, z1l⟩ := Z1.cells) | (have Z1 : Zeg w3 (S.heap.size + 1) := Zeg.below ((Zeg.next _).drew) hb3; obtain ⟨z10, z11, z12, z1f, z1g, z1h, z1l⟩ := Z1.cells) | skip))
            | ((with_reducible refine (HOF2.out _ (by repeat (first | assumption | (with_reducible refine HAL.out _ _ ?_) | (with_reducible refine HDR.out _ ?_) | (with_reducible refine HSE.out _ _ _ ?_ (by simp; omega))))).mono ?_); rintro e w4 ⟨hb4, q0, q1, q2, r0, r1, r2, o0, o1, o2, h, rfl, hg2, hm2⟩; have K4 : Hid (Below S.heap.size S w4) := (HSK.out _ _ (by repeat (first | assumption | (with_reducible refine HAL.out _ _ ?_) | (with_reducible refine HDR.out _ ?_) | (with_reducible refine HSE.out _ _ _ ?_ (by simp; omega)))) hb4).2; obtain ⟨⟨⟨g40, g41, g42, g43, g44, g45⟩, ⟨e40, e41, e42, e43, e44, e45⟩⟩, -⟩ := HSL.out _ K4; have lG4 : BX < w4.heap.size := Nat.lt_of_lt_of_le lG K4.out.size; have lE4 : BY < w4.heap.size := Nat.lt_of_lt_of_le lE K4.out.size
               (first | (have Y0 : Zeg w4 (S.heap.size) := Zeg.below (Z0) hb4; obtain ⟨y00, y01, y02, y0f, y0g, y0h, y0l⟩ := Y0.cells) | (have Y0 : Zeg w4 (S.heap.size) := Zeg.below ((Z0).drew) hb4; obtain ⟨y00, y01, y02, y0f, y0g, y0h, y0l⟩ := Y0.cells) | (have Y0 : Zeg w4 (S.heap.size) := Zeg.below (Z0.alloc _) hb4; obtain ⟨y00, y01, y02, y0f, y0g, y0h, y0l⟩ := Y0.cells) | (have Y0 : Zeg w4 (S.heap.size) := Zeg.below ((Z0.alloc _).drew) hb4; obtain ⟨y00, y01, y02, y0f, y0g, y0h, y0l⟩ := Y0.cells) | (have Y0 : Zeg w4 (S.heap.size) := Zeg.below ((Z0.alloc _).alloc _) hb4; obtain ⟨y00, y01, y02, y0f, y0g, y0h, y0l⟩ := Y0.cells) | (have Y0 : Zeg w4 (S.heap.size) := Zeg.below (((Z0.alloc _).alloc _).drew) hb4; obtain ⟨y00, y01, y02, y0f, y0g, y0h, y0l⟩ := Y0.cells) | skip)
               (first | (have Y1 : Zeg w4 (S.heap.size + 1) := Zeg.below (Z1) hb4; obtain ⟨y10, y11, y12, y1f, y1g, y1h, y1l⟩ := Y1.cells) | (have Y1 : Zeg w4 (S.heap.size + 1) := Zeg.below ((Z1).drew) hb4; obtain ⟨y10, y11, y12, y1f, y1g, y1h, y1l⟩ := Y1.cells) | (have Y1 : Zeg w4 (S.heap.size + 1) := Zeg.below (Z1.alloc _) hb4; obtain ⟨y10, y11, y12, y1f, y1g, y1h, y1l⟩ := Y1.cells) | (have Y1 : Zeg w4 (S.heap.size + 1) := Zeg.below ((Z1.alloc _).drew) hb4; obtain ⟨y10, y11, y12, y1f, y1g, y1h, y1l⟩ := Y1.cells) | (have Y1 : Zeg w4 (S.heap.size + 1) := Zeg.below ((Z1.alloc _).alloc _) hb4; obtain ⟨y10, y11, y12, y1f, y1g, y1h, y1l⟩ := Y1.cells) | (have Y1 : Zeg w4 (S.heap.size + 1) := Zeg.below (((Z1.alloc _).alloc _).drew) hb4; obtain ⟨y10, y11, y12, y1f, y1g, y1h, y1l⟩ := Y1.cells) | skip)
               (first | (have X0 : Zeg w4 (w3.heap.size) := Zeg.below (Zeg.new _) hb4; obtain ⟨x00, x01, x02, x0f, x0g, x0h, x0l⟩ := X0.cells) | (have X0 : Zeg w4 (w3.heap.size) := Zeg.below ((Zeg.new _).drew) hb4; obtain ⟨x00, x01, x02, x0f, x0g, x0h, x0l⟩ := X0.cells) | (have X0 : Zeg w4 (w3.heap.size) := Zeg.below ((Zeg.new _).alloc _) hb4; obtain ⟨x00, x01, x02, x0f, x0g, x0h, x0l⟩ := X0.cells) | (have X0 : Zeg w4 (w3.heap.size) := Zeg.below (((Zeg.new _).alloc _).drew) hb4; obtain ⟨x00, x01, x02, x0f, x0g, x0h, x0l⟩ := X0.cells) | skip)
               (first | (have X1 : Zeg w4 (w3.heap.size + 1) := Zeg.below (Zeg.next _) hb4; obtain ⟨x10, x11, x12, x1f, x1g, x1h, x1l⟩ := X1.cells) | (have X1 : Zeg w4 (w3.heap.size + 1) := Zeg.below ((Zeg.next _).drew) hb4; obtain ⟨x10, x11, x12, x1f, x1g, x1h, x1l⟩ := X1.cells) | skip))))
    all_goals
      have HM1 := Lib.hid hm
      have HM2 := Lib.hid hm2
      clear hm hm2
      go_wp2
      go_meet
      case rel =>
        have HB34 : Below w3.heap.size w3 w4 := gbelow_up (by repeat (first | exact Below.refl _ _ | (with_reducible refine gbelow_al ?_ _) | (with_reducible refine gbelow_dr ?_))) hb4
        have hs3 := K3.out.size
        first
          | (with_reducible exact ⟨_, _, p0, p1, p2, q0, q1, q2, m0, m1, m2, k0, k1, k2, r0, r1, r2, o0, o1, o2, g, h, rfl, rfl, Lib.hid (tg_aa K4.out HB34 hg hg2).1, HM1, HM2⟩)
          | (with_reducible exact ⟨_, _, p0, p1, p2, q0, q1, q2, m0, m1, m2, k0, k1, k2, r0, r1, r2, o0, o1, o2, g, h, rfl, rfl, Lib.hid (tg_aa K4.out HB34 hg hg2).2, HM1, HM2⟩)
          | ((with_reducible refine ⟨_, _, p0, p1, p2, q0, q1, q2, m0, m1, m2, k0, k1, k2, r0, r1, r2, o0, o1, o2, g, h, rfl, rfl, Lib.hid (tg_sa K4.out HB34 hg hg2 Y0 ?_).1, HM1, HM2⟩) <;> (first | omega | exact Nat.le_refl _ | exact Nat.le_succ _ | exact K3.out.size | exact Nat.le_trans K3.out.size (Nat.le_succ _)))
          | ((with_reducible refine ⟨_, _, p0, p1, p2, q0, q1, q2, m0, m1, m2, k0, k1, k2, r0, r1, r2, o0, o1, o2, g, h, rfl, rfl, Lib.hid (tg_sa K4.out HB34 hg hg2 Y0 ?_).2, HM1, HM2⟩) <;> (first | omega | exact Nat.le_refl _ | exact Nat.le_succ _ | exact K3.out.size | exact Nat.le_trans K3.out.size (Nat.le_succ _)))
          | ((with_reducible refine ⟨_, _, p0, p1, p2, q0, q1, q2, m0, m1, m2, k0, k1, k2, r0, r1, r2, o0, o1, o2, g, h, rfl, rfl, Lib.hid (tg_sa K4.out HB34 hg hg2 X0 ?_).1, HM1, HM2⟩) <;> (first | omega | exact Nat.le_refl _ | exact Nat.le_succ _ | exact K3.out.size | exact Nat.le_trans K3.out.size (Nat.le_succ _)))
          | ((with_reducible refine ⟨_, _, p0, p1, p2, q0, q1, q2, m0, m1, m2, k0, k1, k2, r0, r1, r2, o0, o1, o2, g, h, rfl, rfl, Lib.hid (tg_sa K4.out HB34 hg hg2 X0 ?_).2, HM1, HM2⟩) <;> (first | omega | exact Nat.le_refl _ | exact Nat.le_succ _ | exact K3.out.size | exact Nat.le_trans K3.out.size (Nat.le_succ _)))
          | ((with_reducible refine ⟨_, _, p0, p1, p2, q0, q1, q2, m0, m1, m2, k0, k1, k2, r0, r1, r2, o0, o1, o2, g, h, rfl, rfl, Lib.hid (tg_sa K4.out HB34 hg hg2 Y1 ?_).1, HM1, HM2⟩) <;> (first | omega | exact Nat.le_refl _ | exact Nat.le_succ _ | exact K3.out.size | exact Nat.le_trans K3.out.size (Nat.le_succ _)))
          | ((with_reducible refine ⟨_, _, p0, p1, p2, q0, q1, q2, m0, m1, m2, k0, k1, k2, r0, r1, r2, o0, o1, o2, g, h, rfl, rfl, Lib.hid (tg_sa K4.out HB34 hg hg2 Y1 ?_).2, HM1, HM2⟩) <;> (first | omega | exact Nat.le_refl _ | exact Nat.le_succ _ | exact K3.out.size | exact Nat.le_trans K3.out.size (Nat.le_succ _)))
          | ((with_reducible refine ⟨_, _, p0, p1, p2, q0, q1, q2, m0, m1, m2, k0, k1, k2, r0, r1, r2, o0, o1, o2, g, h, rfl, rfl, Lib.hid (tg_sa K4.out HB34 hg hg2 X1 ?_).1, HM1, HM2⟩) <;> (first | omega | exact Nat.le_refl _ | exact Nat.le_succ _ | exact K3.out.size | exact Nat.le_trans K3.out.size (Nat.le_succ _)))
          | ((with_reducible refine ⟨_, _, p0, p1, p2, q0, q1, q2, m0, m1, m2, k0, k1, k2, r0, r1, r2, o0, o1, o2, g, h, rfl, rfl, Lib.hid (tg_sa K4.out HB34 hg hg2 X1 ?_).2, HM1, HM2⟩) <;> (first | omega | exact Nat.le_refl _ | exact Nat.le_succ _ | exact K3.out.size | exact Nat.le_trans K3.out.size (Nat.le_succ _)))
          | ((with_reducible refine ⟨_, _, p0, p1, p2, q0, q1, q2, m0, m1, m2, k0, k1, k2, r0, r1, r2, o0, o1, o2, g, h, rfl, rfl, Lib.hid (tg_ss K4.out HB34 hg hg2 Y0 Y1 ?_ ?_ ?_), HM1, HM2⟩) <;> (first | omega | exact Nat.le_refl _ | exact Nat.le_succ _ | exact K3.out.size | exact Nat.le_trans K3.out.size (Nat.le_succ _)))
          | ((with_reducible refine ⟨_, _, p0, p1, p2, q0, q1, q2, m0, m1, m2, k0, k1, k2, r0, r1, r2, o0, o1, o2, g, h, rfl, rfl, Lib.hid (tg_ss K4.out HB34 hg hg2 Y1 Y0 ?_ ?_ ?_), HM1, HM2⟩) <;> (first | omega | exact Nat.le_refl _ | exact Nat.le_succ _ | exact K3.out.size | exact Nat.le_trans K3.out.size (Nat.le_succ _)))
          | ((with_reducible refine ⟨_, _, p0, p1, p2, q0, q1, q2, m0, m1, m2, k0, k1, k2, r0, r1, r2, o0, o1, o2, g, h, rfl, rfl, Lib.hid (tg_ss K4.out HB34 hg hg2 Y0 X0 ?_ ?_ ?_), HM1, HM2⟩) <;> (first | omega | exact Nat.le_refl _ | exact Nat.le_succ _ | exact K3.out.size | exact Nat.le_trans K3.out.size (Nat.le_succ _)))
          | ((with_reducible refine ⟨_, _, p0, p1, p2, q0, q1, q2, m0, m1, m2, k0, k1, k2, r0, r1, r2, o0, o1, o2, g, h, rfl, rfl, Lib.hid (tg_ss K4.out HB34 hg hg2 X0 Y0 ?_ ?_ ?_), HM1, HM2⟩) <;> (first | omega | exact Nat.le_refl _ | exact Nat.le_succ _ | exact K3.out.size | exact Nat.le_trans K3.out.size (Nat.le_succ _)))
          | ((with_reducible refine ⟨_, _, p0, p1, p2, q0, q1, q2, m0, m1, m2, k0, k1, k2, r0, r1, r2, o0, o1, o2, g, h, rfl, rfl, Lib.hid (tg_ss K4.out HB34 hg hg2 X0 X1 ?_ ?_ ?_), HM1, HM2⟩) <;> (first | omega | exact Nat.le_refl _ | exact Nat.le_succ _ | exact K3.out.size | exact Nat.le_trans K3.out.size (Nat.le_succ _)))
          | ((with_reducible refine ⟨_, _, p0, p1, p2, q0, q1, q2, m0, m1, m2, k0, k1, k2, r0, r1, r2, o0, o1, o2, g, h, rfl, rfl, Lib.hid (tg_ss K4.out HB34 hg hg2 X1 X0 ?_ ?_ ?_), HM1, HM2⟩) <;> (first | omega | exact Nat.le_refl _ | exact Nat.le_succ _ | exact K3.out.size | exact Nat.le_trans K3.out.size (Nat.le_succ _)))
  case rest =>
    obtain ⟨B1, B2, p0, p1, p2, q0, q1, q2, m0, m1, m2, k0, k1, k2, r0, r1, r2, o0, o1, o2, g, h, rfl, rfl, HT, HM1, HM2⟩ := hcut
    rename World => S3
    clear g0 g1 g2 g3 g4 g5 e0 e1 e2 e3 e4 e5 lG lE HSK HB33 HAL HSE HSL HDR HOF1 HOF2
    have HB3 := HT.out.k
    have HBW := Lib.hid (HBG.out.trans (HB3.mono HBG.out.size))
    clear HB3 HBG HQX HQY
    have HCX : Hid (∀ W, Below S3.heap.size S3 W → ((W.cell? ⟨B1, 0, none⟩ = some (.slice p0 m0 k0) ∧ W.cell? ⟨B1, 1, none⟩ = some (.slice p1 m1 k1) ∧ W.cell? ⟨B1, 2, none⟩ = some (.slice p2 m2 k2)) ∧ (W.cell? ⟨B2, 0, none⟩ = some (.slice q0 r0 o0) ∧ W.cell? ⟨B2, 1, none⟩ = some (.slice q1 r1 o1) ∧ W.cell? ⟨B2, 2, none⟩ = some (.slice q2 r2 o2))) ∧ Hid (Below S3.heap.size S3 W)) := Lib.hid fun W hW => by
      have z1 := (hW.block _ (heap_lt HT.out.t)).trans HT.out.t
      have z2 := (hW.block _ (heap_lt HT.out.u)).trans HT.out.u
      exact ⟨⟨⟨(blk_cell z1 rfl).1, (blk_cell z1 rfl).1, (blk_cell z1 rfl).1⟩, ⟨(blk_cell z2 rfl).1, (blk_cell z2 rfl).1, (blk_cell z2 rfl).1⟩⟩, Lib.hid hW⟩
    have HKX : Hid (∀ W W', Hid (Below S3.heap.size S3 W) → Below W.heap.size W W' → ((W'.cell? ⟨B1, 0, none⟩ = some (.slice p0 m0 k0) ∧ W'.cell? ⟨B1, 1, none⟩ = some (.slice p1 m1 k1) ∧ W'.cell? ⟨B1, 2, none⟩ = some (.slice p2 m2 k2)) ∧ (W'.cell? ⟨B2, 0, none⟩ = some (.slice q0 r0 o0) ∧ W'.cell? ⟨B2, 1, none⟩ = some (.slice q1 r1 o1) ∧ W'.cell? ⟨B2, 2, none⟩ = some (.slice q2 r2 o2))) ∧ Hid (Below S3.heap.size S3 W')) := Lib.hid fun W W' h k => HCX.out W' (h.out.trans (k.mono h.out.size))
    have HF1 := Lib.hid (gmid_fits HM1.out)
    have HF2 := Lib.hid (gmid_fits HM2.out)
    have HG1 := Lib.hid fun (W : World) (hW : Below S3.heap.size S3 W) => HT.out.l1.below hW
    have HG2 := Lib.hid fun (W : World) (hW : Below S3.heap.size S3 W) => HT.out.l2.below hW
    obtain ⟨E, ok, hEo, hE1, hE2⟩ : ∃ (E : Int) (ok : Bool), ((E = 0 ∧ ok = true) ∨ (E = 1 ∧ ok = false)) ∧ printE g = E ∧ decide (printE g = 0) = ok := by
      by_cases hp : ChkP g ∧ parse (writeT g) = .ok g
      · have : printE g = 0 := if_pos hp
        exact ⟨0, true, .inl ⟨rfl, rfl⟩, this, by rw [this]; rfl⟩
      · have : printE g = 1 := if_neg hp
        exact ⟨1, false, .inr ⟨rfl, rfl⟩, this, by rw [this]; rfl⟩
    have HP1 := Lib.hid fun W (hW : Below S3.heap.size S3 W) => print_any _ g W (HG1.out W hW) HF1.out (gmid_small HM1.out) (gmid_t HM1.out) (gmid_n HM1.out)
    have HP2 := Lib.hid fun W (hW : Below S3.heap.size S3 W) => rgprint_any _ g W (HG1.out W hW) HF1.out (gmid_t HM1.out) (gmid_n HM1.out)
    rw [hE2] at HP2
    rw [hE1] at HP1
    have HCK := Lib.hid fun W (hW : Below S3.heap.size S3 W) => chk_any _ g W (HG1.out W hW) HF1.out (gmid_small HM1.out) (fun x hx => by have := gmid_t HM1.out x hx; unfold maxLen; omega) (fun x hx => by have := gmid_n HM1.out x hx; unfold maxLen; omega)
    have HRK := Lib.hid fun W (hW : Below S3.heap.size S3 W) => check_any rname_any _ g W (HG1.out W hW) HF1.out.1 HF1.out.2.1 HF1.out.2.2.1 HF1.out.2.2.2 (fun x hx => (List.mem_append.1 hx).elim (gmid_t HM1.out x) (gmid_n HM1.out x))
    obtain ⟨ck, cb, hck, hc1, hc2⟩ : ∃ (ck : Int) (cb : Bool), ((ck = 0 ∧ cb = true) ∨ (ck = 1 ∧ cb = false)) ∧ chkI g = ck ∧ okB g = cb := by
      by_cases hp : ChkP g
      · exact ⟨0, true, .inl ⟨rfl, rfl⟩, if_pos hp, (okB_iff g).2 ((chk_iff g).1 hp)⟩
      · refine ⟨1, false, .inr ⟨rfl, rfl⟩, if_neg hp, ?_⟩
        cases hb : okB g with
        | false => rfl
        | true => exact absurd ((chk_iff g).2 ((okB_iff g).1 hb)) hp
    rw [hc1] at HCK
    rw [hc2] at HRK
    have HS1 := Lib.hid fun W (hW : Below S3.heap.size S3 W) => same_any _ _ g h W (HG1.out W hW) (HG2.out W hW) HF1.out HF2.out
    have HS2 := Lib.hid fun W (hW : Below S3.heap.size S3 W) => sameG_any _ _ g h W (HG1.out W hW) (HG2.out W hW) HF1.out HF2.out
    have HS3 := Lib.hid fun W (hW : Below S3.heap.size S3 W) => same_any _ _ h h W (HG2.out W hW) (HG2.out W hW) HF2.out HF2.out
    rw [decide_eq_true (rfl : h = h)] at HS3
    have HFI := Lib.hid fun (b : ByteArray) W (hW : Below S3.heap.size S3 W) => (show Calls Try.prog 22 #[_, .string b] W _ from gfind_any _ g b.data.toList W (HG1.out W hW) HF1.out.2.1 HF1.out.1)
    have HFR := Lib.hid fun (b : ByteArray) W (hW : Below S3.heap.size S3 W) => (show Calls Try.prog 23 #[_, .string b] W _ from findSym_any _ g b.data.toList W (HG1.out W hW) HF1.out.2.1 HF1.out.1)
    have HN1 := Lib.hid fun (s : Int) W (hW : Below S3.heap.size S3 W) (hs : s ≤ maxI) => gname_any _ g s W (HG1.out W hW) hs (gmid_t HM1.out) (gmid_n HM1.out)
    have HN2 := Lib.hid fun (s : Int) W (hW : Below S3.heap.size S3 W) => symName_any _ g s W (HG1.out W hW) HF1.out.2.1 HF1.out.1
    generalize decide (g = h) = SB at *
    generalize (⟨(printS g).toArray⟩ : ByteArray) = PB at *
    clear hE1 hE2 hc1 hc2
    obtain ⟨⟨⟨g0, g1, g2⟩, ⟨e0, e1, e2⟩⟩, _⟩ := HCX.out S3 (Below.refl _ _)
    have l1 := heap_lt HT.out.t
    have l2 := heap_lt HT.out.u
    go_upto_region 5 with (first
      | (go_at_call 13; (with_reducible refine (HP1.out _ (Below.refl _ _)).mono ?_); rintro e w5 ⟨rfl, hb5⟩; obtain ⟨⟨⟨g50, g51, g52⟩, ⟨e50, e51, e52⟩⟩, _⟩ := HCX.out w5 hb5; have l51 := Nat.lt_of_lt_of_le l1 hb5.size)
      | (go_at_call 14; (with_reducible refine (HP2.out _ hb5).mono ?_); rintro e w6 ⟨rfl, hb6⟩; have hb56 := hb5.trans (hb6.mono hb5.size); obtain ⟨⟨⟨g60, g61, g62⟩, ⟨e60, e61, e62⟩⟩, _⟩ := HCX.out w6 hb56; have l61 := Nat.lt_of_lt_of_le l1 hb56.size))
    have HB6 := Lib.hid hb56
    clear g0 g1 g2 e0 e1 e2 g50 g51 g52 e50 e51 e52 l51 hb5 hb6 hb56
    go_upto_if 38 with (go_at_call 15; (with_reducible refine (HRK.out _ HB6.out).mono ?_); rintro e w7 ⟨rfl, hb7⟩)
    have HB67 := Lib.hid (HB6.out.trans (hb7.mono HB6.out.size))
    clear hb7
    go_cut [15] from 36 to 38 (fun v W => v = .int .i64 ck ∧ Hid (Below S3.heap.size S3 W))
    case first =>
      rcases hck with ⟨rfl, rfl⟩ | ⟨rfl, rfl⟩
      all_goals
        go_wp2
        go_meet
        exact ⟨rfl, HB67⟩
    case rest =>
      obtain ⟨rfl, HB7⟩ := hcut
      rename World => S4
      clear g60 g61 g62 e60 e61 e62 l61 HB6 HB67 HRK HP1 HP2 hck
      have HB7d : Hid (Below S3.heap.size S3 S4.drew) := Lib.hid HB7.out.drew
      obtain ⟨⟨⟨g0, g1, g2⟩, ⟨e0, e1, e2⟩⟩, _⟩ := HCX.out S4 HB7.out
      have lA := Nat.lt_of_lt_of_le l1 HB7.out.size
      have lB := Nat.lt_of_lt_of_le l2 HB7.out.size
      go_upto_region 7 with fail
      go_cut [76] from 39 to 76 (fun v W => v = .bool false ∧ Hid (Below S3.heap.size S3 W))
      case first =>
        rcases hEo with ⟨rfl, rfl⟩ | ⟨rfl, rfl⟩
        ·
          refine wp_region_noPanic ?_
          refine wp_region_held_drew (S := (fun w' => ((w'.cell? ⟨B1, 0, none⟩ = some (.slice p0 m0 k0) ∧ w'.cell? ⟨B1, 1, none⟩ = some (.slice p1 m1 k1) ∧ w'.cell? ⟨B1, 2, none⟩ = some (.slice p2 m2 k2)) ∧ (w'.cell? ⟨B2, 0, none⟩ = some (.slice q0 r0 o0) ∧ w'.cell? ⟨B2, 1, none⟩ = some (.slice q1 r1 o1) ∧ w'.cell? ⟨B2, 2, none⟩ = some (.slice q2 r2 o2))) ∧ Hid (Below S3.heap.size S3 w'))) (by kernel_rfl) ?_ (fun hHeld => ?_)
          · (first | (exact HKX.out _ _ HB7 (Below.refl _ _).drew) | (exact HKX.out _ _ (And.right (show _ ∧ Hid (Below S3.heap.size S3 _) by assumption)) (by assumption)) | go_keep)
          refine wpAnyH_take (i := 0) (v := ?_) (by simp only [List.getElem?_toArray, List.getElem?_cons_zero]; rfl) (by kernel_rfl) (by kernel_rfl) (by kernel_rfl) (fun _ _ _ h => h) (Or.inl ⟨by rfl, ?_⟩) (by assumption) ?_
          rotate_left
          · (intro w hSw; (try dsimp only at hSw); go_simp; (try with_reducible rfl))
          (try simp only [Act.put, List.setIfInBounds_toArray, List.set_cons_zero, List.set_cons_succ])
          refine wpAnyH_take (i := 1) (v := ?_) (by simp only [List.getElem?_toArray, List.getElem?_cons_succ, List.getElem?_cons_zero]; rfl) (by kernel_rfl) (by kernel_rfl) (by kernel_rfl) (fun _ _ _ h => h) (Or.inl ⟨by rfl, ?_⟩) (by assumption) ?_
          rotate_left
          · (intro w hSw; (try dsimp only at hSw); go_simp; (try with_reducible rfl))
          (try simp only [Act.put, List.setIfInBounds_toArray, List.set_cons_zero, List.set_cons_succ])
          refine wpAnyH_take (i := 2) (v := ?_) (by simp only [List.getElem?_toArray, List.getElem?_cons_succ, List.getElem?_cons_zero]; rfl) (by kernel_rfl) (by kernel_rfl) (by kernel_rfl) (fun _ _ _ h => h) (Or.inl ⟨by rfl, ?_⟩) (by assumption) ?_
          rotate_left
          · (intro w hSw; (try dsimp only at hSw); go_simp; (try with_reducible rfl))
          (try simp only [Act.put, List.setIfInBounds_toArray, List.set_cons_zero, List.set_cons_succ])
          refine wpAnyH_take (i := 3) (v := ?_) (by simp only [List.getElem?_toArray, List.getElem?_cons_succ, List.getElem?_cons_zero]; rfl) (by kernel_rfl) (by kernel_rfl) (by kernel_rfl) (fun _ _ _ h => h) (Or.inl ⟨by rfl, ?_⟩) (by assumption) ?_
          rotate_left
          · (intro w hSw; (try dsimp only at hSw); go_simp; (try with_reducible rfl))
          (try simp only [Act.put, List.setIfInBounds_toArray, List.set_cons_zero, List.set_cons_succ])
          refine wpAnyH_take (i := 4) (v := ?_) (by simp only [List.getElem?_toArray, List.getElem?_cons_succ, List.getElem?_cons_zero]; rfl) (by kernel_rfl) (by kernel_rfl) (by kernel_rfl) (fun _ _ _ h => h) (Or.inl ⟨by rfl, ?_⟩) (by assumption) ?_
          rotate_left
          · (intro w hSw; (try dsimp only at hSw); go_simp; (try with_reducible rfl))
          (try simp only [Act.put, List.setIfInBounds_toArray, List.set_cons_zero, List.set_cons_succ])
          refine wpAnyH_take (i := 5) (v := ?_) (by simp only [List.getElem?_toArray, List.getElem?_cons_succ, List.getElem?_cons_zero]; rfl) (by kernel_rfl) (by kernel_rfl) (by kernel_rfl) (fun _ _ _ h => h) (Or.inl ⟨by rfl, ?_⟩) (by assumption) ?_
          rotate_left
          · (intro w hSw; (try dsimp only at hSw); go_simp; (try with_reducible rfl))
          (try simp only [Act.put, List.setIfInBounds_toArray, List.set_cons_zero, List.set_cons_succ])
          refine wpAnyH_take (i := 6) (v := ?_) (by simp only [List.getElem?_toArray, List.getElem?_cons_succ, List.getElem?_cons_zero]; rfl) (by kernel_rfl) (by kernel_rfl) (by kernel_rfl) (fun _ _ _ h => h) (Or.inl ⟨by rfl, ?_⟩) (by assumption) ?_
          rotate_left
          · (intro w hSw; (try dsimp only at hSw); go_simp; (try with_reducible rfl))
          (try simp only [Act.put, List.setIfInBounds_toArray, List.set_cons_zero, List.set_cons_succ])
          refine wpAnyH_take (i := 7) (v := ?_) (by simp only [List.getElem?_toArray, List.getElem?_cons_succ, List.getElem?_cons_zero]; rfl) (by kernel_rfl) (by kernel_rfl) (by kernel_rfl) (fun _ _ _ h => h) (Or.inl ⟨by rfl, ?_⟩) (by assumption) ?_
          rotate_left
          · (intro w hSw; (try dsimp only at hSw); go_simp; (try with_reducible rfl))
          (try simp only [Act.put, List.setIfInBounds_toArray, List.set_cons_zero, List.set_cons_succ])
          refine wpAnyH_take (i := 8) (v := undef) (by simp only [List.getElem?_toArray, List.getElem?_cons_succ, List.getElem?_cons_zero]; rfl) (by kernel_rfl) (by kernel_rfl) (by kernel_rfl) (fun _ _ _ h => h) (Or.inr ⟨by rfl, rfl⟩) (by assumption) ?_
          (try simp only [Act.put, List.setIfInBounds_toArray, List.set_cons_zero, List.set_cons_succ])
          refine wpAnyH_take (i := 9) (v := undef) (by simp only [List.getElem?_toArray, List.getElem?_cons_succ, List.getElem?_cons_zero]; rfl) (by kernel_rfl) (by kernel_rfl) (by kernel_rfl) (fun _ _ _ h => h) (Or.inr ⟨by rfl, rfl⟩) (by assumption) ?_
          (try simp only [Act.put, List.setIfInBounds_toArray, List.set_cons_zero, List.set_cons_succ])
          refine wpAnyH_take (i := 10) (v := ?_) (by simp only [List.getElem?_toArray, List.getElem?_cons_succ, List.getElem?_cons_zero]; rfl) (by kernel_rfl) (by kernel_rfl) (by kernel_rfl) (fun _ _ _ h => h) (Or.inl ⟨by rfl, ?_⟩) (by assumption) ?_
          rotate_left
          · (intro w hSw; (try dsimp only at hSw); go_simp; (try with_reducible rfl))
          (try simp only [Act.put, List.setIfInBounds_toArray, List.set_cons_zero, List.set_cons_succ])
          refine wpAnyH_take (i := 11) (v := ?_) (by simp only [List.getElem?_toArray, List.getElem?_cons_succ, List.getElem?_cons_zero]; rfl) (by kernel_rfl) (by kernel_rfl) (by kernel_rfl) (fun _ _ _ h => h) (Or.inl ⟨by rfl, ?_⟩) (by assumption) ?_
          rotate_left
          · (intro w hSw; (try dsimp only at hSw); go_simp; (try with_reducible rfl))
          (try simp only [Act.put, List.setIfInBounds_toArray, List.set_cons_zero, List.set_cons_succ])
          refine wpAnyH_take (i := 12) (v := ?_) (by simp only [List.getElem?_toArray, List.getElem?_cons_succ, List.getElem?_cons_zero]; rfl) (by kernel_rfl) (by kernel_rfl) (by kernel_rfl) (fun _ _ _ h => h) (Or.inl ⟨by rfl, ?_⟩) (by assumption) ?_
          rotate_left
          · (intro w hSw; (try dsimp only at hSw); go_simp; (try with_reducible rfl))
          (try simp only [Act.put, List.setIfInBounds_toArray, List.set_cons_zero, List.set_cons_succ])
          refine wpAnyH_take (i := 13) (v := ?_) (by simp only [List.getElem?_toArray, List.getElem?_cons_succ, List.getElem?_cons_zero]; rfl) (by kernel_rfl) (by kernel_rfl) (by kernel_rfl) (fun _ _ _ h => h) (Or.inl ⟨by rfl, ?_⟩) (by assumption) ?_
          rotate_left
          · (intro w hSw; (try dsimp only at hSw); go_simp; (try with_reducible rfl))
          (try simp only [Act.put, List.setIfInBounds_toArray, List.set_cons_zero, List.set_cons_succ])
          refine wpAnyH_take (i := 14) (v := ?_) (by simp only [List.getElem?_toArray, List.getElem?_cons_succ, List.getElem?_cons_zero]; rfl) (by kernel_rfl) (by kernel_rfl) (by kernel_rfl) (fun _ _ _ h => h) (Or.inl ⟨by rfl, ?_⟩) (by assumption) ?_
          rotate_left
          · (intro w hSw; (try dsimp only at hSw); go_simp; (try with_reducible rfl))
          (try simp only [Act.put, List.setIfInBounds_toArray, List.set_cons_zero, List.set_cons_succ])
          refine wpAnyH_take (i := 15) (v := ?_) (by simp only [List.getElem?_toArray, List.getElem?_cons_succ, List.getElem?_cons_zero]; rfl) (by kernel_rfl) (by kernel_rfl) (by kernel_rfl) (fun _ _ _ h => h) (Or.inl ⟨by rfl, ?_⟩) (by assumption) ?_
          rotate_left
          · (intro w hSw; (try dsimp only at hSw); go_simp; (try with_reducible rfl))
          (try simp only [Act.put, List.setIfInBounds_toArray, List.set_cons_zero, List.set_cons_succ])
          refine wpAnyH_take (i := 16) (v := ?_) (by simp only [List.getElem?_toArray, List.getElem?_cons_succ, List.getElem?_cons_zero]; rfl) (by kernel_rfl) (by kernel_rfl) (by kernel_rfl) (fun _ _ _ h => h) (Or.inl ⟨by rfl, ?_⟩) (by assumption) ?_
          rotate_left
          · (intro w hSw; (try dsimp only at hSw); go_simp; (try with_reducible rfl))
          (try simp only [Act.put, List.setIfInBounds_toArray, List.set_cons_zero, List.set_cons_succ])
          refine wpAnyH_take (i := 17) (v := ?_) (by simp only [List.getElem?_toArray, List.getElem?_cons_succ, List.getElem?_cons_zero]; rfl) (by kernel_rfl) (by kernel_rfl) (by kernel_rfl) (fun _ _ _ h => h) (Or.inl ⟨by rfl, ?_⟩) (by assumption) ?_
          rotate_left
          · (intro w hSw; (try dsimp only at hSw); go_simp; (try with_reducible rfl))
          (try simp only [Act.put, List.setIfInBounds_toArray, List.set_cons_zero, List.set_cons_succ])
          refine wpAnyH_take (i := 18) (v := ?_) (by simp only [List.getElem?_toArray, List.getElem?_cons_succ, List.getElem?_cons_zero]; rfl) (by kernel_rfl) (by kernel_rfl) (by kernel_rfl) (fun _ _ _ h => h) (Or.inl ⟨by rfl, ?_⟩) (by assumption) ?_
          rotate_left
          · (intro w hSw; (try dsimp only at hSw); go_simp; (try with_reducible rfl))
          (try simp only [Act.put, List.setIfInBounds_toArray, List.set_cons_zero, List.set_cons_succ])
          refine wpAnyH_take (i := 20) (v := ?_) (by simp only [List.getElem?_toArray, List.getElem?_cons_succ, List.getElem?_cons_zero]; rfl) (by kernel_rfl) (by kernel_rfl) (by kernel_rfl) (fun _ _ _ h => h) (Or.inl ⟨by rfl, ?_⟩) (by assumption) ?_
          rotate_left
          · (intro w hSw; (try dsimp only at hSw); go_simp; (try with_reducible rfl))
          (try simp only [Act.put, List.setIfInBounds_toArray, List.set_cons_zero, List.set_cons_succ])
          refine wpAnyH_ready (rs := [19]) (by kernel_rfl) (by simp) ?_
          refine AllReadyH.cons (by simp only [List.getElem?_toArray, List.getElem?_cons_succ, List.getElem?_cons_zero]; rfl) (fun K hK => ?_) ?_
          · (go_simp; go_at_call 16; (with_reducible refine (HCK.out _ (And.right (show _ ∧ Hid (Below S3.heap.size S3 _) by assumption)).out).mono ?_); rintro e w14 ⟨rfl, hb14⟩)
            refine hK.out _ _ ?_ (fun hHeld => ?_)
            · (first | (exact HKX.out _ _ HB7 (Below.refl _ _).drew) | (exact HKX.out _ _ (And.right (show _ ∧ Hid (Below S3.heap.size S3 _) by assumption)) (by assumption)) | go_keep)
            clear hK K
            (try simp only [Act.put, List.setIfInBounds_toArray, List.set_cons_zero, List.set_cons_succ])
            refine wpAnyH_take (i := 21) (v := ?_) (by simp only [List.getElem?_toArray, List.getElem?_cons_succ, List.getElem?_cons_zero]; rfl) (by kernel_rfl) (by kernel_rfl) (by kernel_rfl) (fun _ _ _ h => h) (Or.inl ⟨by rfl, ?_⟩) (by assumption) ?_
            rotate_left
            · (intro w hSw; (try dsimp only at hSw); go_simp; (try with_reducible rfl))
            (try simp only [Act.put, List.setIfInBounds_toArray, List.set_cons_zero, List.set_cons_succ])
            refine wpAnyH_take (i := 22) (v := ?_) (by simp only [List.getElem?_toArray, List.getElem?_cons_succ, List.getElem?_cons_zero]; rfl) (by kernel_rfl) (by kernel_rfl) (by kernel_rfl) (fun _ _ _ h => h) (Or.inl ⟨by rfl, ?_⟩) (by assumption) ?_
            rotate_left
            · (intro w hSw; (try dsimp only at hSw); go_simp; (try with_reducible rfl))
            (try simp only [Act.put, List.setIfInBounds_toArray, List.set_cons_zero, List.set_cons_succ])
            refine wpAnyH_take (i := 23) (v := ?_) (by simp only [List.getElem?_toArray, List.getElem?_cons_succ, List.getElem?_cons_zero]; rfl) (by kernel_rfl) (by kernel_rfl) (by kernel_rfl) (fun _ _ _ h => h) (Or.inl ⟨by rfl, ?_⟩) (by assumption) ?_
            rotate_left
            · (intro w hSw; (try dsimp only at hSw); go_simp; (try with_reducible rfl))
            (try simp only [Act.put, List.setIfInBounds_toArray, List.set_cons_zero, List.set_cons_succ])
            refine wpAnyH_take (i := 24) (v := ?_) (by simp only [List.getElem?_toArray, List.getElem?_cons_succ, List.getElem?_cons_zero]; rfl) (by kernel_rfl) (by kernel_rfl) (by kernel_rfl) (fun _ _ _ h => h) (Or.inl ⟨by rfl, ?_⟩) (by assumption) ?_
            rotate_left
            · (intro w hSw; (try dsimp only at hSw); go_simp; (try with_reducible rfl))
            (try simp only [Act.put, List.setIfInBounds_toArray, List.set_cons_zero, List.set_cons_succ])
            refine wpAnyH_take (i := 25) (v := ?_) (by simp only [List.getElem?_toArray, List.getElem?_cons_succ, List.getElem?_cons_zero]; rfl) (by kernel_rfl) (by kernel_rfl) (by kernel_rfl) (fun _ _ _ h => h) (Or.inl ⟨by rfl, ?_⟩) (by assumption) ?_
            rotate_left
            · (intro w hSw; (try dsimp only at hSw); go_simp; (try with_reducible rfl))
            (try simp only [Act.put, List.setIfInBounds_toArray, List.set_cons_zero, List.set_cons_succ])
            refine wpAnyH_take (i := 27) (v := ?_) (by simp only [List.getElem?_toArray, List.getElem?_cons_succ, List.getElem?_cons_zero]; rfl) (by kernel_rfl) (by kernel_rfl) (by kernel_rfl) (fun _ _ _ h => h) (Or.inl ⟨by rfl, ?_⟩) (by assumption) ?_
            rotate_left
            · (intro w hSw; (try dsimp only at hSw); go_simp; (try with_reducible rfl))
            (try simp only [Act.put, List.setIfInBounds_toArray, List.set_cons_zero, List.set_cons_succ])
            refine wpAnyH_take (i := 28) (v := ?_) (by simp only [List.getElem?_toArray, List.getElem?_cons_succ, List.getElem?_cons_zero]; rfl) (by kernel_rfl) (by kernel_rfl) (by kernel_rfl) (fun _ _ _ h => h) (Or.inl ⟨by rfl, ?_⟩) (by assumption) ?_
            rotate_left
            · (intro w hSw; (try dsimp only at hSw); go_simp; (try with_reducible rfl))
            (try simp only [Act.put, List.setIfInBounds_toArray, List.set_cons_zero, List.set_cons_succ])
            refine wpAnyH_ready (rs := [26]) (by kernel_rfl) (by simp) ?_
            refine AllReadyH.cons (by simp only [List.getElem?_toArray, List.getElem?_cons_succ, List.getElem?_cons_zero]; rfl) (fun K hK => ?_) ?_
            · (go_simp; go_at_call 17; (with_reducible refine (HS1.out _ (And.right (show _ ∧ Hid (Below S3.heap.size S3 _) by assumption)).out).mono ?_); rintro e w15 ⟨rfl, hb15⟩)
              refine hK.out _ _ ?_ (fun hHeld => ?_)
              · (first | (exact HKX.out _ _ HB7 (Below.refl _ _).drew) | (exact HKX.out _ _ (And.right (show _ ∧ Hid (Below S3.heap.size S3 _) by assumption)) (by assumption)) | go_keep)
              clear hK K
              (try simp only [Act.put, List.setIfInBounds_toArray, List.set_cons_zero, List.set_cons_succ])
              refine wpAnyH_ready (rs := [29]) (by kernel_rfl) (by simp) ?_
              refine AllReadyH.cons (by simp only [List.getElem?_toArray, List.getElem?_cons_succ, List.getElem?_cons_zero]; rfl) (fun K hK => ?_) ?_
              · (go_simp; go_at_call 18; (with_reducible refine (HS2.out _ (And.right (show _ ∧ Hid (Below S3.heap.size S3 _) by assumption)).out).mono ?_); rintro e w17 ⟨rfl, hb17⟩)
                refine hK.out _ _ ?_ (fun hHeld => ?_)
                · (first | (exact HKX.out _ _ HB7 (Below.refl _ _).drew) | (exact HKX.out _ _ (And.right (show _ ∧ Hid (Below S3.heap.size S3 _) by assumption)) (by assumption)) | go_keep)
                clear hK K
                (try simp only [Act.put, List.setIfInBounds_toArray, List.set_cons_zero, List.set_cons_succ])
                refine wpAnyH_take (i := 30) (v := ?_) (by simp only [List.getElem?_toArray, List.getElem?_cons_succ, List.getElem?_cons_zero]; rfl) (by kernel_rfl) (by kernel_rfl) (by kernel_rfl) (fun _ _ _ h => h) (Or.inl ⟨by rfl, ?_⟩) (by assumption) ?_
                rotate_left
                · (intro w hSw; (try dsimp only at hSw); go_simp; (try with_reducible rfl))
                (try simp only [Act.put, List.setIfInBounds_toArray, List.set_cons_zero, List.set_cons_succ])
                refine wpAnyH_take (i := 31) (v := ?_) (by simp only [List.getElem?_toArray, List.getElem?_cons_succ, List.getElem?_cons_zero]; rfl) (by kernel_rfl) (by kernel_rfl) (by kernel_rfl) (fun _ _ _ h => h) (Or.inl ⟨by rfl, ?_⟩) (by assumption) ?_
                rotate_left
                · (intro w hSw; (try dsimp only at hSw); go_simp; (try with_reducible rfl))
                (try simp only [Act.put, List.setIfInBounds_toArray, List.set_cons_zero, List.set_cons_succ])
                refine wpAnyH_take (i := 32) (v := ?_) (by simp only [List.getElem?_toArray, List.getElem?_cons_succ, List.getElem?_cons_zero]; rfl) (by kernel_rfl) (by kernel_rfl) (by kernel_rfl) (fun _ _ _ h => h) (Or.inl ⟨by rfl, ?_⟩) (by assumption) ?_
                rotate_left
                · (intro w hSw; (try dsimp only at hSw); go_simp; (try with_reducible rfl))
                (try simp only [Act.put, List.setIfInBounds_toArray, List.set_cons_zero, List.set_cons_succ])
                refine wpAnyH_take (i := 33) (v := ?_) (by simp only [List.getElem?_toArray, List.getElem?_cons_succ, List.getElem?_cons_zero]; rfl) (by kernel_rfl) (by kernel_rfl) (by kernel_rfl) (fun _ _ _ h => h) (Or.inl ⟨by rfl, ?_⟩) (by assumption) ?_
                rotate_left
                · (intro w hSw; (try dsimp only at hSw); go_simp; (try with_reducible rfl))
                (try simp only [Act.put, List.setIfInBounds_toArray, List.set_cons_zero, List.set_cons_succ])
                refine wpAnyH_take (i := 34) (v := ?_) (by simp only [List.getElem?_toArray, List.getElem?_cons_succ, List.getElem?_cons_zero]; rfl) (by kernel_rfl) (by kernel_rfl) (by kernel_rfl) (fun _ _ _ h => h) (Or.inl ⟨by rfl, ?_⟩) (by assumption) ?_
                rotate_left
                · (intro w hSw; (try dsimp only at hSw); go_simp; (try with_reducible rfl))
                (try simp only [Act.put, List.setIfInBounds_toArray, List.set_cons_zero, List.set_cons_succ])
                refine wpAnyH_ready (rs := [35]) (by kernel_rfl) (by simp) ?_
                refine AllReadyH.cons (by simp only [List.getElem?_toArray, List.getElem?_cons_succ, List.getElem?_cons_zero]; rfl) (fun K hK => ?_) ?_
                · (go_simp; go_at_call 17; (with_reducible refine (HS3.out _ (And.right (show _ ∧ Hid (Below S3.heap.size S3 _) by assumption)).out).mono ?_); rintro e w16 ⟨rfl, hb16⟩)
                  refine hK.out _ _ ?_ (fun hHeld => ?_)
                  · (first | (exact HKX.out _ _ HB7 (Below.refl _ _).drew) | (exact HKX.out _ _ (And.right (show _ ∧ Hid (Below S3.heap.size S3 _) by assumption)) (by assumption)) | go_keep)
                  clear hK K
                  (try simp only [Act.put, List.setIfInBounds_toArray, List.set_cons_zero, List.set_cons_succ])
                  refine wpAnyH_take (i := 36) (v := ?_) (by simp only [List.getElem?_toArray, List.getElem?_cons_succ, List.getElem?_cons_zero]; rfl) (by kernel_rfl) (by kernel_rfl) (by kernel_rfl) (fun _ _ _ h => h) (Or.inl ⟨by rfl, ?_⟩) (by assumption) ?_
                  rotate_left
                  · (intro w hSw; (try dsimp only at hSw); go_simp; (try with_reducible rfl))
                  (try simp only [Act.put, List.setIfInBounds_toArray, List.set_cons_zero, List.set_cons_succ])
                  refine wpAnyH_take (i := 37) (v := ?_) (by simp only [List.getElem?_toArray, List.getElem?_cons_succ, List.getElem?_cons_zero]; rfl) (by kernel_rfl) (by kernel_rfl) (by kernel_rfl) (fun _ _ _ h => h) (Or.inl ⟨by rfl, ?_⟩) (by assumption) ?_
                  rotate_left
                  · (intro w hSw; (try dsimp only at hSw); go_simp; (try with_reducible rfl))
                  (try simp only [Act.put, List.setIfInBounds_toArray, List.set_cons_zero, List.set_cons_succ])
                  refine wpAnyH_done (by kernel_rfl) ?_ _
                  refine NoPanic.normal ?_
                  go_wp2
                  go_meet
                  exact ⟨rfl, And.right (show _ ∧ Hid (Below S3.heap.size S3 _) by assumption)⟩
                exact AllReadyH.nil
              exact AllReadyH.nil
            exact AllReadyH.nil
          exact AllReadyH.nil
        ·
          go_region_held3 (fun w' => ((w'.cell? ⟨B1, 0, none⟩ = some (.slice p0 m0 k0) ∧ w'.cell? ⟨B1, 1, none⟩ = some (.slice p1 m1 k1) ∧ w'.cell? ⟨B1, 2, none⟩ = some (.slice p2 m2 k2)) ∧ (w'.cell? ⟨B2, 0, none⟩ = some (.slice q0 r0 o0) ∧ w'.cell? ⟨B2, 1, none⟩ = some (.slice q1 r1 o1) ∧ w'.cell? ⟨B2, 2, none⟩ = some (.slice q2 r2 o2))) ∧ Hid (Below S3.heap.size S3 w'))
            (first | (exact HKX.out _ _ HB7 (Below.refl _ _).drew) | (exact HKX.out _ _ (And.right (show _ ∧ Hid (Below S3.heap.size S3 _) by assumption)) (by assumption)) | go_keep)
            (first
              | (go_at_call 16; (with_reducible refine (HCK.out _ (And.right (show _ ∧ Hid (Below S3.heap.size S3 _) by assumption)).out).mono ?_); rintro e w14 ⟨rfl, hb14⟩)
              | (go_at_call 17; (with_reducible refine (HS1.out _ (And.right (show _ ∧ Hid (Below S3.heap.size S3 _) by assumption)).out).mono ?_); rintro e w15 ⟨rfl, hb15⟩)
              | (go_at_call 17; (with_reducible refine (HS3.out _ (And.right (show _ ∧ Hid (Below S3.heap.size S3 _) by assumption)).out).mono ?_); rintro e w16 ⟨rfl, hb16⟩)
              | (go_at_call 18; (with_reducible refine (HS2.out _ (And.right (show _ ∧ Hid (Below S3.heap.size S3 _) by assumption)).out).mono ?_); rintro e w17 ⟨rfl, hb17⟩))
          all_goals
            go_wp2
            go_meet
            exact ⟨rfl, And.right (show _ ∧ Hid (Below S3.heap.size S3 _) by assumption)⟩
      case rest =>
        obtain ⟨rfl, HB8⟩ := hcut
        clear g0 g1 g2 e0 e1 e2 lA lB HB7 HB7d HS1 HS2 HS3 HCK hEo
        rename World => S5
        go_upto_if 79 with fail
        go_cut [2] from 77 to 89 (fun v W => ∃ sy : Int, v = .int .i64 sy ∧ Hid (sy ≤ maxI) ∧ Hid (Below S3.heap.size S3 W))
        case first =>
          have HW14 := Lib.hid fun W => within_any sym 14 (by omega) (by omega) W
          have HW7 := Lib.hid fun W => within_any sym 7 (by omega) (by omega) W
          have HSM : Hid (sym ≤ maxI) := Lib.hid HSYM.out.2
          have m14 := Int.emod_nonneg sym (show (14 : Int) ≠ 0 by omega)
          have n14 := Int.emod_lt_of_pos sym (show (0 : Int) < 14 by omega)
          have m7 := Int.emod_nonneg sym (show (7 : Int) ≠ 0 by omega)
          have n7 := Int.emod_lt_of_pos sym (show (0 : Int) < 7 by omega)
          generalize sym % 14 = a14 at *
          generalize sym % 7 = a7 at *
          by_cases h4 : sym.tmod 4 = 3
          · have f4 : (sym.tmod 4 != 3) = false := by rw [h4]; rfl
            by_cases h3 : sym.tmod 3 = 2
            · have f3 : (sym.tmod 3 != 2) = false := by rw [h3]; rfl
              clear h4 h3
              go_wp2
              go_meet
              exact ⟨_, rfl, HSM, HB8⟩
            · have f3 : (sym.tmod 3 != 2) = true := by simp [h3]
              clear h4 h3
              go_wp2_with (go_at_call 19; refine (HW7.out _).mono ?_; rintro e w9 ⟨rfl, hw9⟩; rw [hw9]; clear hw9)
              go_meet
              exact ⟨_, rfl, Lib.hid (by unfold maxI; omega), HB8⟩
          · have f4 : (sym.tmod 4 != 3) = true := by simp [h4]
            clear h4
            go_wp2_with (go_at_call 19; refine (HW14.out _).mono ?_; rintro e w9 ⟨rfl, hw9⟩; rw [hw9]; clear hw9)
            go_meet
            exact ⟨_, rfl, Lib.hid (by unfold maxI; omega), HB8⟩
        case rest =>
          obtain ⟨sy, rfl, HSY, HB9⟩ := hcut
          clear HB8 HSYM
          rename World => S6
          have HB9d : Hid (Below S3.heap.size S3 S6.drew) := Lib.hid HB9.out.drew
          obtain ⟨⟨⟨g0, g1, g2⟩, ⟨e0, e1, e2⟩⟩, _⟩ := HCX.out S6 HB9.out
          have lA := Nat.lt_of_lt_of_le l1 HB9.out.size
          have HN3 := Lib.hid (HN2.out sy)
          generalize (⟨(nameG g sy).toArray⟩ : ByteArray) = NB at HN3
          generalize (name.extract 0 (min name.size 4)) = TB at *
          go_upto_region 13 with fail
          go_region_held3 (fun w' => ((w'.cell? ⟨B1, 0, none⟩ = some (.slice p0 m0 k0) ∧ w'.cell? ⟨B1, 1, none⟩ = some (.slice p1 m1 k1) ∧ w'.cell? ⟨B1, 2, none⟩ = some (.slice p2 m2 k2)) ∧ (w'.cell? ⟨B2, 0, none⟩ = some (.slice q0 r0 o0) ∧ w'.cell? ⟨B2, 1, none⟩ = some (.slice q1 r1 o1) ∧ w'.cell? ⟨B2, 2, none⟩ = some (.slice q2 r2 o2))) ∧ Hid (Below S3.heap.size S3 w'))
            (first | (exact HKX.out _ _ HB9 (Below.refl _ _).drew) | (exact HKX.out _ _ (And.right (show _ ∧ Hid (Below S3.heap.size S3 _) by assumption)) (box_belowG _ _)) | (exact HKX.out _ _ (And.right (show _ ∧ Hid (Below S3.heap.size S3 _) by assumption)) (by assumption)) | go_keep)
            (first
              | (go_at_call 20; (with_reducible refine (HTX.out _).mono ?_); rintro e w20 ⟨rfl, hw20⟩; rw [hw20]; clear hw20)
              | (go_at_call 21; (with_reducible refine (HN3.out _ (And.right (show _ ∧ Hid (Below S3.heap.size S3 _) by assumption)).out).mono ?_); rintro e w21 ⟨rfl, hb21⟩))
          all_goals
            have HQV := Lib.hid (heap_alloc_new w21 (.cells #[.string TB, .string NB, .string ⟨#[83]⟩, .string ⟨#[36]⟩] 9))
            have HBV : Hid (Below S3.heap.size S3 (w21.alloc (.cells #[.string TB, .string NB, .string ⟨#[83]⟩, .string ⟨#[36]⟩] 9))) := And.right (show _ ∧ Hid (Below S3.heap.size S3 _) by assumption)
            generalize w21.alloc (.cells #[.string TB, .string NB, .string ⟨#[83]⟩, .string ⟨#[36]⟩] 9) = V at *
            go_wp2
            go_loopw [97] (fun i wr => ∃ j : Nat, j ≤ 4 ∧ i = .int .i64 j ∧ Hid (Below V.heap.size V wr)) (fun i _ => 4 - (intOf i).toNat)
            case atStart => exact ⟨0, Nat.zero_le _, rfl, Lib.hid (Below.refl _ _)⟩
            case round =>
              obtain ⟨j, hj, rfl, HBE⟩ := hrel
              have HBR := Lib.hid (HBV.out.trans (HBE.out.mono HBV.out.size))
              have HBRd : Hid (Below S3.heap.size S3 wr.drew) := Lib.hid HBR.out.drew
              obtain ⟨⟨⟨t0, t1, t2⟩, ⟨u0, u1, u2⟩⟩, _⟩ := HCX.out wr HBR.out
              have lT : B1 < wr.heap.size := Nat.lt_of_lt_of_le l1 HBR.out.size
              by_cases hlt : j < 4
              · obtain ⟨b, hb⟩ : ∃ b : ByteArray, wr.cell? ⟨w21.heap.size, j, none⟩ = some (.string b) := by
                  have hq := (HBE.out.block _ (heap_lt HQV.out)).trans HQV.out
                  obtain rfl | rfl | rfl | rfl : j = 0 ∨ j = 1 ∨ j = 2 ∨ j = 3 := by omega
                  · exact ⟨_, (blk_cell (i := 0) hq rfl).1⟩
                  · exact ⟨_, (blk_cell (i := 1) hq rfl).1⟩
                  · exact ⟨_, (blk_cell (i := 2) hq rfl).1⟩
                  · exact ⟨_, (blk_cell (i := 3) hq rfl).1⟩
                have lV : w21.heap.size < wr.heap.size := Nat.lt_of_lt_of_le (heap_lt HQV.out) HBE.out.size
                have e1 : (j : Int) < 4 := by omega
                have HA := Lib.hid (HFI.out b)
                have HB := Lib.hid (HFR.out b)
                generalize findG g b.data.toList = FG at *
                go_wp2_with (first
                  | (go_at_call 22; (with_reducible refine (HA.out _ HBR.out).mono ?_); rintro e w30 ⟨rfl, hb30⟩; have hb31 := HBR.out.trans (hb30.mono HBR.out.size); obtain ⟨⟨⟨v0, v1, v2⟩, _⟩, _⟩ := HCX.out w30 hb31; have lW : B1 < w30.heap.size := Nat.lt_of_lt_of_le l1 hb31.size)
                  | (go_at_call 23; (with_reducible refine (HB.out _ hb31).mono ?_); rintro e w32 ⟨rfl, hb32⟩))
                go_roundw
                case rel => exact ⟨j + 1, by omega, by go_num, Lib.hid (HBE.out.trans ((hb30.trans (hb32.mono hb30.size)).mono HBE.out.size))⟩
                case measure => simp [intOf]; omega
              · have e1 : ¬ (j : Int) < 4 := by omega
                have HN5 := Lib.hid fun W hW => HN1.out sy W hW HSY.out
                have HN6 := Lib.hid (HN2.out sy)
                generalize (⟨(nameG g sy).toArray⟩ : ByteArray) = MB at HN5 HN6
                go_upto_region 21 with fail
                go_region_held3 (fun w' => ((w'.cell? ⟨B1, 0, none⟩ = some (.slice p0 m0 k0) ∧ w'.cell? ⟨B1, 1, none⟩ = some (.slice p1 m1 k1) ∧ w'.cell? ⟨B1, 2, none⟩ = some (.slice p2 m2 k2)) ∧ (w'.cell? ⟨B2, 0, none⟩ = some (.slice q0 r0 o0) ∧ w'.cell? ⟨B2, 1, none⟩ = some (.slice q1 r1 o1) ∧ w'.cell? ⟨B2, 2, none⟩ = some (.slice q2 r2 o2))) ∧ Hid (Below S3.heap.size S3 w'))
                  (first | (exact HKX.out _ _ HBR (Below.refl _ _).drew) | (exact HKX.out _ _ (And.right (show _ ∧ Hid (Below S3.heap.size S3 _) by assumption)) (by assumption)) | go_keep)
                  (first
                    | (go_at_call 24; (with_reducible refine (HN5.out _ (And.right (show _ ∧ Hid (Below S3.heap.size S3 _) by assumption)).out).mono ?_); rintro e w33 ⟨rfl, hb33⟩)
                    | (go_at_call 21; (with_reducible refine (HN6.out _ (And.right (show _ ∧ Hid (Below S3.heap.size S3 _) by assumption)).out).mono ?_); rintro e w34 ⟨rfl, hb34⟩)
                    | (go_at_call 25; refine (HWK.out _).mono ?_; rintro e w35 ⟨rfl, hb35⟩))
                all_goals
                  go_wp2
                  go_ret
                  exact ⟨rfl, HBW.out.trans ((And.right (show _ ∧ Hid (Below S3.heap.size S3 _) by assumption)).out.mono HBW.out.size)⟩

end Go.Proofs.Ytjlohjkhnjemaaa
