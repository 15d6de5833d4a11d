/- TreeTexts: walked. -/
import Derived.Test.YtjlohjkhnjemaaaTreeM
import Derived.Test.YtjlohjkhnjemaaaTreeE
import Derived.Test.YtjlohjkhnjemaaaTreeD
import Derived.Deep.RegionHeld3
import Derived.Deep.RegionLaw
set_option linter.unusedVariables false
namespace Go.Proofs.Ytjlohjkhnjemaaa
open Go.RowKit
open Doc

theorem name_inj {g : Gr} (h : CheckG g) {s s' : Int} (h1 : symB g s = true) (h2 : symB g s' = true) (e : nameG g s = nameG g s') : s = s' := by
  have a := (name_kind h h1).2
  have b := (name_kind h h2).2
  rw [e, b] at a
  exact (congrArg Prod.fst a).symm
theorem name_cut {g : Gr} (h : CheckG g) {s s' : Int} {R R' : List UInt8} (h1 : symB g s = true) (h2 : symB g s' = true) (hR : Cut0 R) (hR' : Cut0 R') (e : nameG g s ++ R = nameG g s' ++ R') : s = s' ∧ R = R' := by
  have a := cut_name (R := R) (kind_signs (name_kind h h1).1) hR
  have b := cut_name (R := R') (kind_signs (name_kind h h2).1) hR'
  rw [e] at a
  exact ⟨name_inj h h1 h2 (a.1.symm.trans b.1), a.2.symm.trans b.2⟩
theorem textK_cons (g : Gr) (t : Tr) (l : List Tr) (R : List UInt8) : textK g (t :: l) ++ 41 :: R = 32 :: (textT g t ++ (textK g l ++ 41 :: R)) := by simp [textK]

theorem text_inj {g : Gr} (h : CheckG g) (t : Tr) : ∀ (u : Tr) (R R' : List UInt8), checkT g t t.sym = true → checkT g u u.sym = true → Cut0 R → Cut0 R' → textT g t ++ R = textT g u ++ R' → t = u ∧ R = R' := by
  induction t using Tr.ind with
  | h s p ks ih =>
    intro u R R' hc hd hR hR' e
    cases u with
    | mk s' p' ks' =>
      obtain ⟨_, hcase⟩ := check_cases hc
      obtain ⟨_, hdase⟩ := check_cases hd
      rcases hcase with ⟨rfl, rfl, hs⟩ | ⟨m, rfl, hq, hks⟩
      · rcases hdase with ⟨rfl, rfl, hs'⟩ | ⟨m', rfl, hq', hks'⟩
        · simp only [textT, if_true] at e
          obtain ⟨e1, e2⟩ := name_cut h hs hs' hR hR' e
          exact ⟨by rw [e1], e2⟩
        · have hm1 : ¬ ((m' : Int) = -1) := by omega
          simp only [textT, if_true, if_neg hm1] at e
          obtain ⟨c, l, e3, hc40⟩ := head_name h hs (R := R)
          rw [e3] at e
          simp only [List.cons_append, List.cons.injEq] at e
          exact absurd e.1 hc40
      · have hm1 : ¬ ((m : Int) = -1) := by omega
        rcases hdase with ⟨rfl, rfl, hs'⟩ | ⟨m', rfl, hq', hks'⟩
        · simp only [textT, if_true, if_neg hm1] at e
          obtain ⟨c, l, e3, hc40⟩ := head_name h hs' (R := R')
          rw [e3] at e
          simp only [List.cons_append, List.cons.injEq] at e
          exact absurd e.1.symm hc40
        · have hm2 : ¬ ((m' : Int) = -1) := by omega
          simp only [textT, if_neg hm1, if_neg hm2] at e
          have e4 : nameG g s ++ (textK g ks ++ 41 :: R) = nameG g s' ++ (textK g ks' ++ 41 :: R') := by simpa using e
          obtain ⟨e5, e6⟩ := name_cut h (left_symB h hq).1 (left_symB h hq').1 (text_cut g) (text_cut g) e4
          have hK : ∀ (l l' : List Tr), (∀ k ∈ l, k ∈ ks) → (∀ k ∈ l', k ∈ ks') → textK g l ++ 41 :: R = textK g l' ++ 41 :: R' → l = l' ∧ R = R' := by
            intro l
            induction l with
            | nil =>
              intro l' _ _ e7
              cases l' with
              | nil => exact ⟨rfl, by simpa [textK] using e7⟩
              | cons t' l' => rw [textK_cons] at e7; simp [textK] at e7
            | cons t l ih2 =>
              intro l' hl hl' e7
              cases l' with
              | nil => rw [textK_cons] at e7; simp [textK] at e7
              | cons t' l' =>
                rw [textK_cons, textK_cons] at e7
                have e8 := (List.cons.inj e7).2
                obtain ⟨e9, e10⟩ := ih t (hl t List.mem_cons_self) t' _ _ (hks t (hl t List.mem_cons_self)) (hks' t' (hl' t' List.mem_cons_self)) (text_cut g) (text_cut g) e8
                obtain ⟨e11, e12⟩ := ih2 l' (fun k hk => hl k (List.mem_cons_of_mem _ hk)) (fun k hk => hl' k (List.mem_cons_of_mem _ hk)) e10
                exact ⟨by rw [e9, e11], e12⟩
          obtain ⟨e13, e14⟩ := hK ks ks' (fun _ hk => hk) (fun _ hk => hk) e6
          subst e5
          subst e13
          exact ⟨by rw [prod_nodup h hq hq'], e14⟩

theorem text_same {g : Gr} (h : CheckG g) {t u : Tr} (hc : checkT g t t.sym = true) (hd : checkT g u u.sym = true) : textT g t = textT g u ↔ t = u := by
  refine ⟨fun e => ?_, fun e => by rw [e]⟩
  have hn : Cut0 [] := fun c l e => by cases e
  exact (text_inj h t u [] [] hc hd hn hn (by rw [e])).1

theorem name_none {g : Gr} (h : CheckG g) {s : Int} (hs : symB g s = true) {c : UInt8} (hc : notSign c = false) : (nameG g s).count c = 0 := by
  refine List.count_eq_zero.2 fun hm => ?_
  have := kind_signs (name_kind h hs).1 c hm
  rw [hc] at this
  cases this

theorem text_signs {g : Gr} (h : CheckG g) (t : Tr) : checkT g t t.sym = true →
    (textT g t).count 40 + (leavesT t).length = sizeT t ∧ (textT g t).count 41 = (textT g t).count 40 ∧ (textT g t).count 32 + 1 = sizeT t ∧ (0 < (textT g t).count 40 ↔ t.prod ≠ -1) := by
  induction t using Tr.ind with
  | h s p ks ih =>
    intro hc
    obtain ⟨_, hcase⟩ := check_cases hc
    rcases hcase with ⟨rfl, rfl, hs⟩ | ⟨m, rfl, hq, hks⟩
    · simp only [textT, if_true, leavesT, sizeT, sizeK, Tr.prod]
      rw [name_none h hs (by decide), name_none h hs (by decide), name_none h hs (by decide)]
      simp
    · have hm1 : ¬ ((m : Int) = -1) := by omega
      have hs := (left_symB h hq).1
      simp only at hs
      simp only [textT, if_neg hm1, leavesT, sizeT, Tr.prod]
      have hK : ∀ l : List Tr, (∀ k ∈ l, k ∈ ks) → (textK g l).count 40 + (leavesK l).length = sizeK l ∧ (textK g l).count 41 = (textK g l).count 40 ∧ (textK g l).count 32 = sizeK l := by
        intro l
        induction l with
        | nil => intro _; simp [textK, leavesK, sizeK]
        | cons t l ih2 =>
          intro hl
          obtain ⟨a1, a2, a3, _⟩ := ih t (hl t List.mem_cons_self) (hks t (hl t List.mem_cons_self))
          obtain ⟨b1, b2, b3⟩ := ih2 (fun k hk => hl k (List.mem_cons_of_mem _ hk))
          simp only [textK, leavesK, sizeK, List.count_append, List.length_append, List.count_cons]
          simp
          omega
      obtain ⟨b1, b2, b3⟩ := hK ks (fun _ hk => hk)
      have n0 := name_none h hs (c := 40) (by decide)
      have n1 := name_none h hs (c := 41) (by decide)
      have n2 := name_none h hs (c := 32) (by decide)
      simp only [List.count_append, List.count_cons, List.cons_append]
      simp
      omega

theorem text_some {g : Gr} (h : CheckG g) {t : Tr} (hc : checkT g t t.sym = true) : textT g t ≠ [] := by
  cases t with
  | mk s p ks =>
    obtain ⟨_, hcase⟩ := check_cases hc
    rcases hcase with ⟨rfl, rfl, hs⟩ | ⟨m, rfl, hq, hks⟩
    · obtain ⟨c, l, e, _⟩ := head_name h hs (R := [])
      simp only [textT, if_true]
      rw [List.append_nil] at e
      rw [e]
      intro e2
      cases e2
    · have hm1 : ¬ ((m : Int) = -1) := by omega
      simp [textT]


/-- A zero tree, alone in its block. -/
def Zer (W : World) (B : Nat) : Prop := W.heap[B]? = some (.cells #[.int .i64 0, .int .i64 0, .slice none 0 0] 79)
theorem Zer.cells {W : World} {B : Nat} (h : Zer W B) : W.cell? ⟨B, 0, none⟩ = some (.int .i64 0) ∧ W.cell? ⟨B, 1, none⟩ = some (.int .i64 0) ∧ W.cell? ⟨B, 2, none⟩ = some (.slice none 0 0) ∧ W.frozen? ⟨B, 0, none⟩ = false ∧ W.frozen? ⟨B, 1, none⟩ = false ∧ W.frozen? ⟨B, 2, none⟩ = false ∧ B < W.heap.size := ⟨(blk_cell (i := 0) h rfl).1, (blk_cell (i := 1) h rfl).1, (blk_cell (i := 2) h rfl).1, (blk_cell (i := 0) h rfl).2, (blk_cell (i := 1) h rfl).2, (blk_cell (i := 2) h rfl).2, heap_lt h⟩
theorem Zer.new (W : World) : Zer (W.alloc (.cells #[.int .i64 0, .int .i64 0, .slice none 0 0] 79)) W.heap.size := heap_alloc_new W _
theorem Zer.alloc {W : World} {B : Nat} (h : Zer W B) (o : Obj) : Zer (W.alloc o) B := (Below.heap_alloc _ _ _ (heap_lt h)).trans h
theorem Zer.drew {W : World} {B : Nat} (h : Zer W B) : Zer W.drew B := h
theorem Zer.next (W : World) : Zer ((W.alloc (.cells #[.int .i64 0, .int .i64 0, .slice none 0 0] 79)).alloc (.cells #[.int .i64 0, .int .i64 0, .slice none 0 0] 79)) (W.heap.size + 1) := by have h := Zer.new (W.alloc (.cells #[.int .i64 0, .int .i64 0, .slice none 0 0] 79)); rwa [show (W.alloc (.cells #[.int .i64 0, .int .i64 0, .slice none 0 0] 79)).heap.size = W.heap.size + 1 by simp] at h
theorem Zer.below {W W' : World} {B : Nat} (h : Zer W B) (hb : Below W.heap.size W W') : Zer W' B := (hb.block _ (heap_lt h)).trans h

/-- Two trees in their boxes. -/
structure Tw (S W : World) (B1 B2 : Nat) (tl ul : Tl) : Prop where
  k : Below S.heap.size S W
  t : W.heap[B1]? = some (.cells #[.int .i64 tl.sym, .int .i64 tl.prod, .slice tl.a tl.kids.length tl.c] 79)
  u : W.heap[B2]? = some (.cells #[.int .i64 ul.sym, .int .i64 ul.prod, .slice ul.a ul.kids.length ul.c] 79)
  l1 : Lies (fun b => b ≠ B1 ∧ b ≠ B2) W tl
  l2 : Lies (fun b => b ≠ B1 ∧ b ≠ B2) W ul

theorem fits_checkT {g : Gr} (h : CheckG g) : Fits g := ⟨by have := h.t8; omega, by have := h.n8; omega, by have := h.p24; omega, fun p hp => by have := (h.pv p hp).2.1; omega⟩
theorem below_up {X W W' : World} (h : Below X.heap.size X W) (k : Below W.heap.size W W') : Below X.heap.size X W' := h.trans (k.mono h.size)
theorem below_al {X W : World} (h : Below X.heap.size X W) (o : Obj) : Below X.heap.size X (W.alloc o) := h.alloc h.size o
theorem below_dr {X W : World} (h : Below X.heap.size X W) : Below X.heap.size X W.drew := h.drew
/-- Both boxes made behind the calls. -/
theorem tw_aa {S w3 w4 : World} {tl ul : Tl} {n1 n2 : Nat} (hS : Below S.heap.size S w4) (h34 : Below w3.heap.size w3 w4) (hl1 : Lies (fun b => n1 ≤ b) w3 tl) (hl2 : Lies (fun b => n2 ≤ b) w4 ul) :
    Tw S ((w4.alloc (.cells #[.int .i64 tl.sym, .int .i64 tl.prod, .slice tl.a tl.kids.length tl.c] 79)).alloc (.cells #[.int .i64 ul.sym, .int .i64 ul.prod, .slice ul.a ul.kids.length ul.c] 79)) w4.heap.size (w4.heap.size + 1) tl ul ∧
    Tw S ((w4.alloc (.cells #[.int .i64 ul.sym, .int .i64 ul.prod, .slice ul.a ul.kids.length ul.c] 79)).alloc (.cells #[.int .i64 tl.sym, .int .i64 tl.prod, .slice tl.a tl.kids.length tl.c] 79)) (w4.heap.size + 1) w4.heap.size tl ul := by
  have k1 : Lies (fun b => b < w4.heap.size) w4 tl := (hl1.under h34).weak fun b _ h => h
  have k2 : Lies (fun b => b < w4.heap.size) w4 ul := hl2.weak fun b _ h => h
  constructor
  · obtain ⟨hb, _, q0, q1⟩ := twin_alloc w4 (.cells #[.int .i64 tl.sym, .int .i64 tl.prod, .slice tl.a tl.kids.length tl.c] 79) (.cells #[.int .i64 ul.sym, .int .i64 ul.prod, .slice ul.a ul.kids.length ul.c] 79)
    exact ⟨below_up hS hb, q0, q1, (k1.under hb).weak fun b h _ => by omega, (k2.under hb).weak fun b h _ => by omega⟩
  · obtain ⟨hb, _, q0, q1⟩ := twin_alloc w4 (.cells #[.int .i64 ul.sym, .int .i64 ul.prod, .slice ul.a ul.kids.length ul.c] 79) (.cells #[.int .i64 tl.sym, .int .i64 tl.prod, .slice tl.a tl.kids.length tl.c] 79)
    exact ⟨below_up hS hb, q1, q0, (k1.under hb).weak fun b h _ => by omega, (k2.under hb).weak fun b h _ => by omega⟩
/-- The first box made ahead of the last call. -/
theorem tw_sa {S w3 w4 : World} {tl ul : Tl} {n1 n2 K : Nat} (hS : Below S.heap.size S w4) (h34 : Below w3.heap.size w3 w4) (hl1 : Lies (fun b => n1 ≤ b) w3 tl) (hl2 : Lies (fun b => n2 ≤ b) w4 ul) (hz : Zer w4 K) (hK : S.heap.size ≤ K) (c1 : K < n1 ∨ w3.heap.size ≤ K) (c2 : K < n2) :
    Tw S ((((w4.setCell ⟨K, 0, none⟩ (.int .i64 tl.sym)).setCell ⟨K, 1, none⟩ (.int .i64 tl.prod)).setCell ⟨K, 2, none⟩ (.slice tl.a tl.kids.length tl.c)).alloc (.cells #[.int .i64 ul.sym, .int .i64 ul.prod, .slice ul.a ul.kids.length ul.c] 79)) K w4.heap.size tl ul ∧
    Tw S ((((w4.setCell ⟨K, 0, none⟩ (.int .i64 ul.sym)).setCell ⟨K, 1, none⟩ (.int .i64 ul.prod)).setCell ⟨K, 2, none⟩ (.slice ul.a ul.kids.length ul.c)).alloc (.cells #[.int .i64 tl.sym, .int .i64 tl.prod, .slice tl.a tl.kids.length tl.c] 79)) w4.heap.size K tl ul := by
  have k1 : Lies (fun b => b < w4.heap.size ∧ b ≠ K) w4 tl := ((hl1.weak (Q := fun b => n1 ≤ b ∧ b < w3.heap.size) fun b h1 h2 => ⟨h1, h2⟩).under h34).weak fun b h hl => by omega
  have k2 : Lies (fun b => b < w4.heap.size ∧ b ≠ K) w4 ul := hl2.weak fun b h hl => by omega
  constructor
  · have hz3 := store3 hz (.int .i64 tl.sym) (.int .i64 tl.prod) (.slice tl.a tl.kids.length tl.c)
    have hb3 := store3_below hS hK (.int .i64 tl.sym) (.int .i64 tl.prod) (.slice tl.a tl.kids.length tl.c)
    have hf := fun b => store3_far (w := w4) (b := K) (.int .i64 tl.sym) (.int .i64 tl.prod) (.slice tl.a tl.kids.length tl.c) b
    have hs : (((w4.setCell ⟨K, 0, none⟩ (.int .i64 tl.sym)).setCell ⟨K, 1, none⟩ (.int .i64 tl.prod)).setCell ⟨K, 2, none⟩ (.slice tl.a tl.kids.length tl.c)).heap.size = w4.heap.size := by simp
    generalize ((w4.setCell ⟨K, 0, none⟩ (.int .i64 tl.sym)).setCell ⟨K, 1, none⟩ (.int .i64 tl.prod)).setCell ⟨K, 2, none⟩ (.slice tl.a tl.kids.length tl.c) = W at *
    have hA := box_belowT W (.cells #[.int .i64 ul.sym, .int .i64 ul.prod, .slice ul.a ul.kids.length ul.c] 79)
    have hn := heap_alloc_new W (.cells #[.int .i64 ul.sym, .int .i64 ul.prod, .slice ul.a ul.kids.length ul.c] 79)
    rw [hs] at hn
    exact ⟨below_up hb3 hA, (hA.block _ (heap_lt hz3)).trans hz3, hn, ((k1.keep (by omega) (fun b h _ => hf b h.2) (fun _ h _ => h)).under hA).weak fun b h _ => by omega, ((k2.keep (by omega) (fun b h _ => hf b h.2) (fun _ h _ => h)).under hA).weak fun b h _ => by omega⟩
  · have hz3 := store3 hz (.int .i64 ul.sym) (.int .i64 ul.prod) (.slice ul.a ul.kids.length ul.c)
    have hb3 := store3_below hS hK (.int .i64 ul.sym) (.int .i64 ul.prod) (.slice ul.a ul.kids.length ul.c)
    have hf := fun b => store3_far (w := w4) (b := K) (.int .i64 ul.sym) (.int .i64 ul.prod) (.slice ul.a ul.kids.length ul.c) b
    have hs : (((w4.setCell ⟨K, 0, none⟩ (.int .i64 ul.sym)).setCell ⟨K, 1, none⟩ (.int .i64 ul.prod)).setCell ⟨K, 2, none⟩ (.slice ul.a ul.kids.length ul.c)).heap.size = w4.heap.size := by simp
    generalize ((w4.setCell ⟨K, 0, none⟩ (.int .i64 ul.sym)).setCell ⟨K, 1, none⟩ (.int .i64 ul.prod)).setCell ⟨K, 2, none⟩ (.slice ul.a ul.kids.length ul.c) = W at *
    have hA := box_belowT W (.cells #[.int .i64 tl.sym, .int .i64 tl.prod, .slice tl.a tl.kids.length tl.c] 79)
    have hn := heap_alloc_new W (.cells #[.int .i64 tl.sym, .int .i64 tl.prod, .slice tl.a tl.kids.length tl.c] 79)
    rw [hs] at hn
    exact ⟨below_up hb3 hA, hn, (hA.block _ (heap_lt hz3)).trans hz3, ((k1.keep (by omega) (fun b h _ => hf b h.2) (fun _ h _ => h)).under hA).weak fun b h _ => by omega, ((k2.keep (by omega) (fun b h _ => hf b h.2) (fun _ h _ => h)).under hA).weak fun b h _ => by omega⟩
/-- Both boxes made ahead of the last call. -/
theorem tw_ss {S w3 w4 : World} {tl ul : Tl} {n1 n2 K1 K2 : Nat} (hS : Below S.heap.size S w4) (h34 : Below w3.heap.size w3 w4) (hl1 : Lies (fun b => n1 ≤ b) w3 tl) (hl2 : Lies (fun b => n2 ≤ b) w4 ul) (hz1 : Zer w4 K1) (hz2 : Zer w4 K2) (hne : K1 ≠ K2) (hK1 : S.heap.size ≤ K1) (hK2 : S.heap.size ≤ K2) (c1 : K1 < n1 ∨ w3.heap.size ≤ K1) (c2 : K1 < n2) (d1 : K2 < n1 ∨ w3.heap.size ≤ K2) (d2 : K2 < n2) :
    Tw S ((((((w4.setCell ⟨K1, 0, none⟩ (.int .i64 tl.sym)).setCell ⟨K1, 1, none⟩ (.int .i64 tl.prod)).setCell ⟨K1, 2, none⟩ (.slice tl.a tl.kids.length tl.c)).setCell ⟨K2, 0, none⟩ (.int .i64 ul.sym)).setCell ⟨K2, 1, none⟩ (.int .i64 ul.prod)).setCell ⟨K2, 2, none⟩ (.slice ul.a ul.kids.length ul.c)) K1 K2 tl ul := by
  have k1 : Lies (fun b => b ≠ K1 ∧ b ≠ K2) w4 tl := ((hl1.weak (Q := fun b => n1 ≤ b ∧ b < w3.heap.size) fun b h1 h2 => ⟨h1, h2⟩).under h34).weak fun b h hl => by omega
  have k2 : Lies (fun b => b ≠ K1 ∧ b ≠ K2) w4 ul := hl2.weak fun b h hl => by omega
  have hz3 := store3 hz1 (.int .i64 tl.sym) (.int .i64 tl.prod) (.slice tl.a tl.kids.length tl.c)
  have hb3 := store3_below hS hK1 (.int .i64 tl.sym) (.int .i64 tl.prod) (.slice tl.a tl.kids.length tl.c)
  have hf := fun b => store3_far (w := w4) (b := K1) (.int .i64 tl.sym) (.int .i64 tl.prod) (.slice tl.a tl.kids.length tl.c) b
  have hs : (((w4.setCell ⟨K1, 0, none⟩ (.int .i64 tl.sym)).setCell ⟨K1, 1, none⟩ (.int .i64 tl.prod)).setCell ⟨K1, 2, none⟩ (.slice tl.a tl.kids.length tl.c)).heap.size = w4.heap.size := by simp
  generalize ((w4.setCell ⟨K1, 0, none⟩ (.int .i64 tl.sym)).setCell ⟨K1, 1, none⟩ (.int .i64 tl.prod)).setCell ⟨K1, 2, none⟩ (.slice tl.a tl.kids.length tl.c) = W at *
  have hzW : Zer W K2 := (hf K2 (Ne.symm hne)).trans hz2
  have hz4 := store3 hzW (.int .i64 ul.sym) (.int .i64 ul.prod) (.slice ul.a ul.kids.length ul.c)
  have hb4 := store3_below hb3 hK2 (.int .i64 ul.sym) (.int .i64 ul.prod) (.slice ul.a ul.kids.length ul.c)
  have hf2 := fun b => store3_far (w := W) (b := K2) (.int .i64 ul.sym) (.int .i64 ul.prod) (.slice ul.a ul.kids.length ul.c) b
  have hs2 : (((W.setCell ⟨K2, 0, none⟩ (.int .i64 ul.sym)).setCell ⟨K2, 1, none⟩ (.int .i64 ul.prod)).setCell ⟨K2, 2, none⟩ (.slice ul.a ul.kids.length ul.c)).heap.size = W.heap.size := by simp
  generalize ((W.setCell ⟨K2, 0, none⟩ (.int .i64 ul.sym)).setCell ⟨K2, 1, none⟩ (.int .i64 ul.prod)).setCell ⟨K2, 2, none⟩ (.slice ul.a ul.kids.length ul.c) = W2 at *
  exact ⟨hb4, (hf2 K1 hne).trans hz3, hz4, k1.keep (by omega) (fun b h _ => (hf2 b h.2).trans (hf b h.1)) (fun _ h _ => h), k2.keep (by omega) (fun b h _ => (hf2 b h.2).trans (hf b h.1)) (fun _ h _ => h)⟩

set_option maxRecDepth 100000 in
set_option maxHeartbeats 20000000 in
theorem treeTexts_walk (x : RawX) (a : Option Addr) (len cap : Nat) (zs : List Int) (b : Option Addr) (len2 cap2 : Nat) (ys : List Int) (deep other : Int) (w : World) (hx : RawAt w x) (hwd : RawWide x) (hr : IsRow .i64 w a len cap zs) (hcap : cap * 8 ≤ 140737488351232) (hr2 : IsRow .i64 w b len2 cap2 ys) (hcap2 : cap2 * 8 ≤ 140737488351232) :
    Calls Try.prog 11 #[x.v, .slice a len cap, .slice b len2 cap2, .int .i64 deep, .int .i64 other] w fun e w' => e = .returned (.bool true) ∧ Below w.heap.size w w' := by
  have hln := row_len hr
  have hln2 := row_len hr2
  have HGR := Lib.hid fun W (h : Below w.heap.size w W) => grammar_0 x.calm W ((calm_at hx).below h) (calm_wide hwd) (by show (0 : Int) % 40 < 28; omega)
  have HZ := Lib.hid (row_cells hr)
  have HZW := Lib.hid (row_wide hr)
  have HZL := Lib.hid hln
  have HCP := Lib.hid hcap
  have HY := Lib.hid (row_cells hr2)
  have HYW := Lib.hid (row_wide hr2)
  have HYL := Lib.hid hln2
  have HCP2 := Lib.hid hcap2
  have HWK := Lib.hid fun W => wakes8_any W
  obtain ⟨xp, xt, xn, xh, rows, xa, xc, word⟩ := x
  unfold RawX.calm RawX.v at *
  simp only at *
  have hb0 := box_belowT w (.cells #[.int .i64 xp, .int .i64 xt, .int .i64 xn, .int .i64 0, .slice xa rows.length xc, .string word] 24)
  have HG1 := Lib.hid (HGR.out _ hb0)
  have HB1 := Lib.hid hb0
  clear hb0 HGR hx hwd hr hcap hln hr2 hcap2 hln2
  go_enter Try.func11, Try.ntmps11
  go_upto_region 3 with (go_at_call 12; (with_reducible refine HG1.out.mono ?_); rintro e w2 ⟨hb2, a1, a2, a3, c1, c2, c3, g, rfl, hg2, hc2⟩)
  obtain ⟨hbG, -, qG⟩ := one_alloc w2 (.cells #[.slice a1 g.terms.length c1, .slice a2 g.nons.length c2, .slice a3 g.prods.length c3] 28)
  have HBG := Lib.hid ((HB1.out.trans (hb2.mono HB1.out.size)).trans (hbG.mono (Nat.le_trans HB1.out.size hb2.size)))
  have HQG := Lib.hid qG
  have HGG := Lib.hid (hg2.below hbG)
  have HCG := Lib.hid hc2
  clear hb2 hg2 hc2 hbG qG HG1 HB1
  generalize w2.alloc (.cells #[.slice a1 g.terms.length c1, .slice a2 g.nons.length c2, .slice a3 g.prods.length c3] 28) = S at *
  generalize w2.heap.size = BG at *
  have HOF1 := Lib.hid fun W (hW : Hid (Below S.heap.size S W)) => treeOf_any g HCG.out a1 a2 a3 c1 c2 c3 a cap (zs.take len) deep 0 0 W (HGG.out.below hW.out) ((HZ.out.below HBG.out).below hW.out) (by have := HZL.out; omega) (by have := HCP.out; omega) HZW.out (by decide)
  have HOF2 := Lib.hid fun W (hW : Hid (Below S.heap.size S W)) => treeOf_any g HCG.out a1 a2 a3 c1 c2 c3 b cap2 (ys.take len2) other 0 0 W (HGG.out.below hW.out) ((HY.out.below HBG.out).below hW.out) (by have := HYL.out; omega) (by have := HCP2.out; omega) HYW.out (by decide)
  rw [HZL.out.1] at HOF1
  rw [HYL.out.1] at HOF2
  unfold OfEnd at HOF1 HOF2
  have HSK : Hid (∀ W W' : World, Hid (Below S.heap.size S W) → Below W.heap.size W W' → (W'.cell? ⟨BG, 0, none⟩ = some (.slice a1 g.terms.length c1) ∧ W'.cell? ⟨BG, 1, none⟩ = some (.slice a2 g.nons.length c2) ∧ W'.cell? ⟨BG, 2, none⟩ = some (.slice a3 g.prods.length c3)) ∧ Hid (Below S.heap.size S W')) := Lib.hid fun W W' h k => by
    have hb := h.out.trans (k.mono h.out.size)
    have z1 := (hb.block _ (heap_lt HQG.out)).trans HQG.out
    exact ⟨⟨(blk_cell z1 rfl).1, (blk_cell z1 rfl).1, (blk_cell z1 rfl).1⟩, Lib.hid hb⟩
  have HB33 := Lib.hid (Below.refl S.heap.size S)
  have HAL : Hid (∀ (W : World) (o : Obj), Hid (Below S.heap.size S W) → Hid (Below S.heap.size S (W.alloc o))) := Lib.hid fun W o h => Lib.hid (h.out.alloc h.out.size o)
  have HSE : Hid (∀ (W : World) (p : Addr) (u : Value), Hid (Below S.heap.size S W) → S.heap.size ≤ p.block → Hid (Below S.heap.size S (W.setCell p u))) := Lib.hid fun W p u h hp => Lib.hid (h.out.setCell hp u)
  have HSL : Hid (∀ F : World, Hid (Below S.heap.size S F) → (F.cell? ⟨BG, 0, none⟩ = some (.slice a1 g.terms.length c1) ∧ F.cell? ⟨BG, 1, none⟩ = some (.slice a2 g.nons.length c2) ∧ F.cell? ⟨BG, 2, none⟩ = some (.slice a3 g.prods.length c3)) ∧ Hid (Below S.heap.size S F)) := Lib.hid fun F h => by
    have z1 := (h.out.block _ (heap_lt HQG.out)).trans HQG.out
    exact ⟨⟨(blk_cell z1 rfl).1, (blk_cell z1 rfl).1, (blk_cell z1 rfl).1⟩, h⟩
  have HDR : Hid (∀ W : World, Hid (Below S.heap.size S W) → Hid (Below S.heap.size S W.drew)) := Lib.hid fun W h => Lib.hid h.out.drew
  obtain ⟨⟨g0, g1, g2⟩, -⟩ := HSL.out _ HB33
  have lG := heap_lt HQG.out
  go_cut [12, 13] from 23 to 30 (fun v1 v2 W => ∃ (B1 B2 : Nat) (tl ul : Tl), v1 = .pointer (some ⟨B1, 0, none⟩) ∧ v2 = .pointer (some ⟨B2, 0, none⟩) ∧ Hid (Tw S W B1 B2 tl ul) ∧ Hid (checkT g tl.plain tl.sym = true ∧ sizeT tl.plain ≤ 9331 ∧ 100 ≤ tl.sym) ∧ Hid (checkT g ul.plain ul.sym = true ∧ sizeT ul.plain ≤ 9331 ∧ 100 ≤ ul.sym))
  case first =>
    go_region_law (first
        | (go_simp; go_at_call 55; first
            | ((with_reducible refine (HOF1.out _ (by repeat (first | assumption | (with_reducible refine HAL.out _ _ ?_) | (with_reducible refine HDR.out _ ?_) | (with_reducible refine HSE.out _ _ _ ?_ (by simp; omega))))).mono ?_); rintro e w3 ⟨hb3, tl, rfl, hli, hck, hsz, hsy⟩; have K3 : Hid (Below S.heap.size S w3) := (HSK.out _ _ (by repeat (first | assumption | (with_reducible refine HAL.out _ _ ?_) | (with_reducible refine HDR.out _ ?_) | (with_reducible refine HSE.out _ _ _ ?_ (by simp; omega)))) hb3).2; obtain ⟨⟨g30, g31, g32⟩, -⟩ := HSL.out _ K3; have lG3 : BG < w3.heap.size := Nat.lt_of_lt_of_le lG K3.out.size
               (first | (have Z0 : Zer w3 (S.heap.size) := Zer.below (Zer.new _) hb3; obtain ⟨z00, z01, z02, z0f, z0g, z0h, z0l⟩ := Z0.cells) | (have Z0 : Zer w3 (S.heap.size) := Zer.below ((Zer.new _).drew) hb3; obtain ⟨z00, z01, z02, z0f, z0g, z0h, z0l⟩ := Z0.cells) | (have Z0 : Zer w3 (S.heap.size) := Zer.below ((Zer.new _).alloc _) hb3; obtain ⟨z00, z01, z02, z0f, z0g, z0h, z0l⟩ := Z0.cells) | (have Z0 : Zer w3 (S.heap.size) := Zer.below (((Zer.new _).alloc _).drew) hb3; obtain ⟨z00, z01, z02, z0f, z0g, z0h, z0l⟩ := Z0.cells) | skip)
               (first | (have Z1 : Zer w3 (S.heap.size + 1) := Zer.below (Zer.next _) hb3; obtain ⟨z10, z11, z12, z1f, z1g, z1h, z1l⟩ := Z1.cells) | (have Z1 : Zer w3 (S.heap.size + 1) := Zer.below ((Zer.next _).drew) hb3; obtain ⟨z10, z11, z12, z1f, z1g, z1h, z1l⟩ := Z1.cells) | skip))
            | ((with_reducible refine (HOF2.out _ (by repeat (first | assumption | (with_reducible refine HAL.out _ _ ?_) | (with_reducible refine HDR.out _ ?_) | (with_reducible refine HSE.out _ _ _ ?_ (by simp; omega))))).mono ?_); rintro e w4 ⟨hb4, ul, rfl, hli2, hck2, hsz2, hsy2⟩; have K4 : Hid (Below S.heap.size S w4) := (HSK.out _ _ (by repeat (first | assumption | (with_reducible refine HAL.out _ _ ?_) | (with_reducible refine HDR.out _ ?_) | (with_reducible refine HSE.out _ _ _ ?_ (by simp; omega)))) hb4).2; obtain ⟨⟨g40, g41, g42⟩, -⟩ := HSL.out _ K4; have lG4 : BG < w4.heap.size := Nat.lt_of_lt_of_le lG K4.out.size
               (first | (have Y0 : Zer w4 (S.heap.size) := Zer.below (Z0) hb4; obtain ⟨y00, y01, y02, y0f, y0g, y0h, y0l⟩ := Y0.cells) | (have Y0 : Zer w4 (S.heap.size) := Zer.below ((Z0).drew) hb4; obtain ⟨y00, y01, y02, y0f, y0g, y0h, y0l⟩ := Y0.cells) | (have Y0 : Zer w4 (S.heap.size) := Zer.below (Z0.alloc _) hb4; obtain ⟨y00, y01, y02, y0f, y0g, y0h, y0l⟩ := Y0.cells) | (have Y0 : Zer w4 (S.heap.size) := Zer.below ((Z0.alloc _).drew) hb4; obtain ⟨y00, y01, y02, y0f, y0g, y0h, y0l⟩ := Y0.cells) | (have Y0 : Zer w4 (S.heap.size) := Zer.below ((Z0.alloc _).alloc _) hb4; obtain ⟨y00, y01, y02, y0f, y0g, y0h, y0l⟩ := Y0.cells) | (have Y0 : Zer w4 (S.heap.size) := Zer.below (((Z0.alloc _).alloc _).drew) hb4; obtain ⟨y00, y01, y02, y0f, y0g, y0h, y0l⟩ := Y0.cells) | skip)
               (first | (have Y1 : Zer w4 (S.heap.size + 1) := Zer.below (Z1) hb4; obtain ⟨y10, y11, y12, y1f, y1g, y1h, y1l⟩ := Y1.cells) | (have Y1 : Zer w4 (S.heap.size + 1) := Zer.below ((Z1).drew) hb4; obtain ⟨y10, y11, y12, y1f, y1g, y1h, y1l⟩ := Y1.cells) | (have Y1 : Zer w4 (S.heap.size + 1) := Zer.below (Z1.alloc _) hb4; obtain ⟨y10, y11, y12, y1f, y1g, y1h, y1l⟩ := Y1.cells) | (have Y1 : Zer w4 (S.heap.size + 1) := Zer.below ((Z1.alloc _).drew) hb4; obtain ⟨y10, y11, y12, y1f, y1g, y1h, y1l⟩ := Y1.cells) | (have Y1 : Zer w4 (S.heap.size + 1) := Zer.below ((Z1.alloc _).alloc _) hb4; obtain ⟨y10, y11, y12, y1f, y1g, y1h, y1l⟩ := Y1.cells) | (have Y1 : Zer w4 (S.heap.size + 1) := Zer.below (((Z1.alloc _).alloc _).drew) hb4; obtain ⟨y10, y11, y12, y1f, y1g, y1h, y1l⟩ := Y1.cells) | skip)
               (first | (have X0 : Zer w4 (w3.heap.size) := Zer.below (Zer.new _) hb4; obtain ⟨x00, x01, x02, x0f, x0g, x0h, x0l⟩ := X0.cells) | (have X0 : Zer w4 (w3.heap.size) := Zer.below ((Zer.new _).drew) hb4; obtain ⟨x00, x01, x02, x0f, x0g, x0h, x0l⟩ := X0.cells) | (have X0 : Zer w4 (w3.heap.size) := Zer.below ((Zer.new _).alloc _) hb4; obtain ⟨x00, x01, x02, x0f, x0g, x0h, x0l⟩ := X0.cells) | (have X0 : Zer w4 (w3.heap.size) := Zer.below (((Zer.new _).alloc _).drew) hb4; obtain ⟨x00, x01, x02, x0f, x0g, x0h, x0l⟩ := X0.cells) | skip)
               (first | (have X1 : Zer w4 (w3.heap.size + 1) := Zer.below (Zer.next _) hb4; obtain ⟨x10, x11, x12, x1f, x1g, x1h, x1l⟩ := X1.cells) | (have X1 : Zer w4 (w3.heap.size + 1) := Zer.below ((Zer.next _).drew) hb4; obtain ⟨x10, x11, x12, x1f, x1g, x1h, x1l⟩ := X1.cells) | skip))))
    all_goals
      have HM1 := Lib.hid (And.intro hck (And.intro hsz hsy))
      have HM2 := Lib.hid (And.intro hck2 (And.intro hsz2 hsy2))
      clear hck hsz hsy hck2 hsz2 hsy2
      go_wp2
      go_meet
      case rel =>
        have HB34 : Below w3.heap.size w3 w4 := below_up (by repeat (first | exact Below.refl _ _ | (with_reducible refine below_al ?_ _) | (with_reducible refine below_dr ?_))) hb4
        have hs3 := K3.out.size
        first
          | (with_reducible exact ⟨_, _, tl, ul, rfl, rfl, Lib.hid (tw_aa K4.out HB34 hli hli2).1, HM1, HM2⟩)
          | (with_reducible exact ⟨_, _, tl, ul, rfl, rfl, Lib.hid (tw_aa K4.out HB34 hli hli2).2, HM1, HM2⟩)
          | ((with_reducible refine ⟨_, _, tl, ul, rfl, rfl, Lib.hid (tw_sa K4.out HB34 hli hli2 Y0 (Nat.le_refl _) ?_ ?_).1, HM1, HM2⟩) <;> (first | omega | (left; first | omega | assumption | (show _ < (World.alloc _ _).heap.size; simp; done) | (show _ < (World.alloc _ _).heap.size; simp; omega)) | (right; first | exact Nat.le_refl _ | exact Nat.le_succ _ | omega) | assumption | (show _ < (World.alloc _ _).heap.size; simp; done) | (show _ < (World.alloc _ _).heap.size; simp; omega)))
          | ((with_reducible refine ⟨_, _, tl, ul, rfl, rfl, Lib.hid (tw_sa K4.out HB34 hli hli2 Y0 (Nat.le_refl _) ?_ ?_).2, HM1, HM2⟩) <;> (first | omega | (left; first | omega | assumption | (show _ < (World.alloc _ _).heap.size; simp; done) | (show _ < (World.alloc _ _).heap.size; simp; omega)) | (right; first | exact Nat.le_refl _ | exact Nat.le_succ _ | omega) | assumption | (show _ < (World.alloc _ _).heap.size; simp; done) | (show _ < (World.alloc _ _).heap.size; simp; omega)))
          | ((with_reducible refine ⟨_, _, tl, ul, rfl, rfl, Lib.hid (tw_sa K4.out HB34 hli hli2 X0 K3.out.size ?_ ?_).1, HM1, HM2⟩) <;> (first | omega | (left; first | omega | assumption | (show _ < (World.alloc _ _).heap.size; simp; done) | (show _ < (World.alloc _ _).heap.size; simp; omega)) | (right; first | exact Nat.le_refl _ | exact Nat.le_succ _ | omega) | assumption | (show _ < (World.alloc _ _).heap.size; simp; done) | (show _ < (World.alloc _ _).heap.size; simp; omega)))
          | ((with_reducible refine ⟨_, _, tl, ul, rfl, rfl, Lib.hid (tw_sa K4.out HB34 hli hli2 X0 K3.out.size ?_ ?_).2, HM1, HM2⟩) <;> (first | omega | (left; first | omega | assumption | (show _ < (World.alloc _ _).heap.size; simp; done) | (show _ < (World.alloc _ _).heap.size; simp; omega)) | (right; first | exact Nat.le_refl _ | exact Nat.le_succ _ | omega) | assumption | (show _ < (World.alloc _ _).heap.size; simp; done) | (show _ < (World.alloc _ _).heap.size; simp; omega)))
          | ((with_reducible refine ⟨_, _, tl, ul, rfl, rfl, Lib.hid (tw_ss K4.out HB34 hli hli2 Y0 Y1 ?_ (Nat.le_refl _) (Nat.le_succ _) ?_ ?_ ?_ ?_), HM1, HM2⟩) <;> (first | omega | (left; first | omega | assumption | (show _ < (World.alloc _ _).heap.size; simp; done) | (show _ < (World.alloc _ _).heap.size; simp; omega)) | (right; first | exact Nat.le_refl _ | exact Nat.le_succ _ | omega) | assumption | (show _ < (World.alloc _ _).heap.size; simp; done) | (show _ < (World.alloc _ _).heap.size; simp; omega)))
          | ((with_reducible refine ⟨_, _, tl, ul, rfl, rfl, Lib.hid (tw_ss K4.out HB34 hli hli2 Y1 Y0 ?_ (Nat.le_succ _) (Nat.le_refl _) ?_ ?_ ?_ ?_), HM1, HM2⟩) <;> (first | omega | (left; first | omega | assumption | (show _ < (World.alloc _ _).heap.size; simp; done) | (show _ < (World.alloc _ _).heap.size; simp; omega)) | (right; first | exact Nat.le_refl _ | exact Nat.le_succ _ | omega) | assumption | (show _ < (World.alloc _ _).heap.size; simp; done) | (show _ < (World.alloc _ _).heap.size; simp; omega)))
          | ((with_reducible refine ⟨_, _, tl, ul, rfl, rfl, Lib.hid (tw_ss K4.out HB34 hli hli2 Y0 X0 ?_ (Nat.le_refl _) K3.out.size ?_ ?_ ?_ ?_), HM1, HM2⟩) <;> (first | omega | (left; first | omega | assumption | (show _ < (World.alloc _ _).heap.size; simp; done) | (show _ < (World.alloc _ _).heap.size; simp; omega)) | (right; first | exact Nat.le_refl _ | exact Nat.le_succ _ | omega) | assumption | (show _ < (World.alloc _ _).heap.size; simp; done) | (show _ < (World.alloc _ _).heap.size; simp; omega)))
          | ((with_reducible refine ⟨_, _, tl, ul, rfl, rfl, Lib.hid (tw_ss K4.out HB34 hli hli2 X0 Y0 ?_ K3.out.size (Nat.le_refl _) ?_ ?_ ?_ ?_), HM1, HM2⟩) <;> (first | omega | (left; first | omega | assumption | (show _ < (World.alloc _ _).heap.size; simp; done) | (show _ < (World.alloc _ _).heap.size; simp; omega)) | (right; first | exact Nat.le_refl _ | exact Nat.le_succ _ | omega) | assumption | (show _ < (World.alloc _ _).heap.size; simp; done) | (show _ < (World.alloc _ _).heap.size; simp; omega)))
          | ((with_reducible refine ⟨_, _, tl, ul, rfl, rfl, Lib.hid (tw_ss K4.out HB34 hli hli2 X0 X1 ?_ K3.out.size (Nat.le_trans K3.out.size (Nat.le_succ _)) ?_ ?_ ?_ ?_), HM1, HM2⟩) <;> (first | omega | (left; first | omega | assumption | (show _ < (World.alloc _ _).heap.size; simp; done) | (show _ < (World.alloc _ _).heap.size; simp; omega)) | (right; first | exact Nat.le_refl _ | exact Nat.le_succ _ | omega) | assumption | (show _ < (World.alloc _ _).heap.size; simp; done) | (show _ < (World.alloc _ _).heap.size; simp; omega)))
          | ((with_reducible refine ⟨_, _, tl, ul, rfl, rfl, Lib.hid (tw_ss K4.out HB34 hli hli2 X1 X0 ?_ (Nat.le_trans K3.out.size (Nat.le_succ _)) K3.out.size ?_ ?_ ?_ ?_), HM1, HM2⟩) <;> (first | omega | (left; first | omega | assumption | (show _ < (World.alloc _ _).heap.size; simp; done) | (show _ < (World.alloc _ _).heap.size; simp; omega)) | (right; first | exact Nat.le_refl _ | exact Nat.le_succ _ | omega) | assumption | (show _ < (World.alloc _ _).heap.size; simp; done) | (show _ < (World.alloc _ _).heap.size; simp; omega)))
  case rest =>
    obtain ⟨B1, B2, tl, ul, rfl, rfl, HT, HM1, HM2⟩ := hcut
    rename World => S3
    clear g0 g1 g2 lG HSK HB33 HAL HSE HSL HDR HOF1 HOF2
    have HB3 := HT.out.k
    have HBW := Lib.hid (HBG.out.trans (HB3.mono HBG.out.size))
    have HGT := Lib.hid (HGG.out.below HB3)
    have HQ2 := Lib.hid ((HB3.block _ (heap_lt HQG.out)).trans HQG.out)
    have HC5 := Lib.hid fun (W : World) (hW : Below S3.heap.size S3 W) => And.intro (HGT.out.below hW) (And.intro (HT.out.l1.under hW) (HT.out.l2.under hW))
    have HCX : Hid (∀ W, Below S3.heap.size S3 W → ((W.cell? ⟨BG, 0, none⟩ = some (.slice a1 g.terms.length c1) ∧ W.cell? ⟨BG, 1, none⟩ = some (.slice a2 g.nons.length c2) ∧ W.cell? ⟨BG, 2, none⟩ = some (.slice a3 g.prods.length c3)) ∧ (W.cell? ⟨B1, 0, none⟩ = some (.int .i64 tl.sym) ∧ W.cell? ⟨B1, 1, none⟩ = some (.int .i64 tl.prod) ∧ W.cell? ⟨B1, 2, none⟩ = some (.slice tl.a tl.kids.length tl.c)) ∧ (W.cell? ⟨B2, 0, none⟩ = some (.int .i64 ul.sym) ∧ W.cell? ⟨B2, 1, none⟩ = some (.int .i64 ul.prod) ∧ W.cell? ⟨B2, 2, none⟩ = some (.slice ul.a ul.kids.length ul.c))) ∧ Hid (Below S3.heap.size S3 W)) := Lib.hid fun W hW => by
      have z0 := (hW.block _ (heap_lt HQ2.out)).trans HQ2.out
      have z1 := (hW.block _ (heap_lt HT.out.t)).trans HT.out.t
      have z2 := (hW.block _ (heap_lt HT.out.u)).trans HT.out.u
      exact ⟨⟨⟨(blk_cell z0 rfl).1, (blk_cell z0 rfl).1, (blk_cell z0 rfl).1⟩, ⟨(blk_cell z1 rfl).1, (blk_cell z1 rfl).1, (blk_cell z1 rfl).1⟩, ⟨(blk_cell z2 rfl).1, (blk_cell z2 rfl).1, (blk_cell z2 rfl).1⟩⟩, Lib.hid hW⟩
    have HKX : Hid (∀ W W', Hid (Below S3.heap.size S3 W) → Below W.heap.size W W' → ((W'.cell? ⟨BG, 0, none⟩ = some (.slice a1 g.terms.length c1) ∧ W'.cell? ⟨BG, 1, none⟩ = some (.slice a2 g.nons.length c2) ∧ W'.cell? ⟨BG, 2, none⟩ = some (.slice a3 g.prods.length c3)) ∧ (W'.cell? ⟨B1, 0, none⟩ = some (.int .i64 tl.sym) ∧ W'.cell? ⟨B1, 1, none⟩ = some (.int .i64 tl.prod) ∧ W'.cell? ⟨B1, 2, none⟩ = some (.slice tl.a tl.kids.length tl.c)) ∧ (W'.cell? ⟨B2, 0, none⟩ = some (.int .i64 ul.sym) ∧ W'.cell? ⟨B2, 1, none⟩ = some (.int .i64 ul.prod) ∧ W'.cell? ⟨B2, 2, none⟩ = some (.slice ul.a ul.kids.length ul.c))) ∧ Hid (Below S3.heap.size S3 W')) := Lib.hid fun W W' h k => HCX.out W' (h.out.trans (k.mono h.out.size))
    have HKD : Hid (∀ W W' n, Hid (Below S3.heap.size S3 W) → W' = W.drewN n → Below W.heap.size W W') := Lib.hid fun W W' n h e => by subst e; exact below_drews (Below.refl _ _) _
    have HFT := Lib.hid (fits_checkT HCG.out)
    have HSH := Lib.hid (check_shortN HCG.out)
    have HB00 := Lib.hid (Below.refl S3.heap.size S3)
    have hsy1 : tl.plain.sym = tl.sym := tl.plain_sym
    have hsy2 : ul.plain.sym = ul.sym := ul.plain_sym
    have hk1 : checkT g tl.plain tl.plain.sym = true := by rw [hsy1]; exact HM1.out.1
    have hk2 : checkT g ul.plain ul.plain.sym = true := by rw [hsy2]; exact HM2.out.1
    have htn1 := tiny_mild _ (check_tinyT HCG.out _ _ HM1.out.1)
    have htn2 := tiny_mild _ (check_tinyT HCG.out _ _ HM2.out.1)
    have hz1 := HM1.out.2.1
    have hz2 := HM2.out.2.1
    have HP1 := Lib.hid fun W (hW : Below S3.heap.size S3 W) => tprint_any tl _ _ g W (HC5.out W hW).1 HFT.out HSH.out (HC5.out W hW).2.1 htn1 (by omega)
    have HP2 := Lib.hid fun W (hW : Below S3.heap.size S3 W) => tprint_any ul _ _ g W (HC5.out W hW).1 HFT.out HSH.out (HC5.out W hW).2.2 htn2 (by omega)
    have hp1 : printT g tl.plain = textT g tl.plain := by unfold printT; rw [if_pos hk1]
    have hp2 : printT g ul.plain = textT g ul.plain := by unfold printT; rw [if_pos hk2]
    rw [hp1] at HP1
    rw [hp2] at HP2
    have HSA := Lib.hid fun W (hW : Below S3.heap.size S3 W) => tsame_any tl ul _ _ W (HC5.out W hW).2.1 (HC5.out W hW).2.2 (by omega) (by omega)
    have HSI := Lib.hid fun W (hW : Below S3.heap.size S3 W) => tsize_any tl _ W (HC5.out W hW).2.1 (by omega)
    have HLV := Lib.hid fun W (hW : Below S3.heap.size S3 W) => tleaves_any tl _ W (HC5.out W hW).2.1 (by omega)
    unfold Tl.v at HP1 HP2 HSA HSI HLV
    have htl := text_len HSH.out tl.plain
    have HTL : Hid (textT g tl.plain ≠ [] ∧ textT g ul.plain ≠ []) := Lib.hid ⟨text_some HCG.out hk1, text_some HCG.out hk2⟩
    have HEQ : Hid (sameT tl.plain ul.plain = decide (textT g tl.plain = textT g ul.plain)) := Lib.hid (by
      rw [Bool.eq_iff_iff, decide_eq_true_iff, same_iff, text_same HCG.out hk1 hk2])
    rw [HEQ.out] at HSA
    have HSG := Lib.hid (text_signs HCG.out tl.plain hk1)
    have HPD : Hid (tl.plain.prod = tl.prod) := Lib.hid tl.plain_prod
    obtain ⟨⟨⟨g0, g1, g2⟩, ⟨t0, t1, t2⟩, ⟨u0, u1, u2⟩⟩, _⟩ := HCX.out S3 HB00.out
    have lG : BG < S3.heap.size := heap_lt HQ2.out
    have lT : B1 < S3.heap.size := heap_lt HT.out.t
    have lU : B2 < S3.heap.size := heap_lt HT.out.u
    have hlen9 : (textT g tl.plain).length ≤ 1000000 := by omega
    clear htn1 htn2 hp1 hp2 hk1 hk2 hsy1 hsy2 htl hz2
    generalize textT g tl.plain = TA at *
    generalize textT g ul.plain = TB at *
    go_upto_region 4 with fail
    go_region_held3 (fun w' => ((w'.cell? ⟨BG, 0, none⟩ = some (.slice a1 g.terms.length c1) ∧ w'.cell? ⟨BG, 1, none⟩ = some (.slice a2 g.nons.length c2) ∧ w'.cell? ⟨BG, 2, none⟩ = some (.slice a3 g.prods.length c3)) ∧ (w'.cell? ⟨B1, 0, none⟩ = some (.int .i64 tl.sym) ∧ w'.cell? ⟨B1, 1, none⟩ = some (.int .i64 tl.prod) ∧ w'.cell? ⟨B1, 2, none⟩ = some (.slice tl.a tl.kids.length tl.c)) ∧ (w'.cell? ⟨B2, 0, none⟩ = some (.int .i64 ul.sym) ∧ w'.cell? ⟨B2, 1, none⟩ = some (.int .i64 ul.prod) ∧ w'.cell? ⟨B2, 2, none⟩ = some (.slice ul.a ul.kids.length ul.c))) ∧ Hid (Below S3.heap.size S3 w'))
      (first | (exact HKX.out _ _ HB00 (Below.refl _ _).drew) | (exact HKX.out _ _ (And.right (show _ ∧ Hid (Below S3.heap.size S3 _) by assumption)) (by assumption)) | go_keep)
      (first
        | (go_at_call 47; (with_reducible refine (HP1.out _ (And.right (show _ ∧ Hid (Below S3.heap.size S3 _) by assumption)).out).mono ?_); rintro e w14 ⟨rfl, hb14⟩)
        | (go_at_call 47; (with_reducible refine (HP2.out _ (And.right (show _ ∧ Hid (Below S3.heap.size S3 _) by assumption)).out).mono ?_); rintro e w15 ⟨rfl, hb15⟩))
    all_goals
      have HB15 := (And.right (show _ ∧ Hid (Below S3.heap.size S3 _) by assumption))
      obtain ⟨⟨⟨g0, g1, g2⟩, ⟨t0, t1, t2⟩, ⟨u0, u1, u2⟩⟩, _⟩ := HCX.out _ HB15.out
      have HSAX := Lib.hid (HSA.out _ HB15.out)
      have lG : BG < w15.heap.size := Nat.lt_of_lt_of_le (heap_lt HQ2.out) HB15.out.size
      have lT : B1 < w15.heap.size := Nat.lt_of_lt_of_le (heap_lt HT.out.t) HB15.out.size
      have lU : B2 < w15.heap.size := Nat.lt_of_lt_of_le (heap_lt HT.out.u) HB15.out.size
      obtain ⟨PA, HPA⟩ : ∃ PA : ByteArray, Hid (⟨TA.toArray⟩ = PA) := ⟨_, Lib.hid rfl⟩
      obtain ⟨PB, HPB⟩ : ∃ PB : ByteArray, Hid (⟨TB.toArray⟩ = PB) := ⟨_, Lib.hid rfl⟩
      rw [HPA.out, HPB.out]
      have hpa : PA.toList.isEmpty = false := by
        rw [ByteArray.toList_eq, ← HPA.out]
        show TA.isEmpty = false
        cases hh : TA with
        | nil => exact absurd hh HTL.out.1
        | cons c l => rfl
      have hpb : PB.toList.isEmpty = false := by
        rw [ByteArray.toList_eq, ← HPB.out]
        show TB.isEmpty = false
        cases hh : TB with
        | nil => exact absurd hh HTL.out.2
        | cons c l => rfl
      obtain ⟨EB, HEB⟩ : ∃ EB, Hid ((PA.toList == PB.toList) = EB) := ⟨_, Lib.hid rfl⟩
      have HDE : Hid (decide (TA = TB) = EB) := Lib.hid (by
        rw [← HEB.out, ← HPA.out, ← HPB.out, ByteArray.toList_eq, ByteArray.toList_eq]
        show decide (TA = TB) = (TA == TB)
        rw [Bool.eq_iff_iff, decide_eq_true_iff, beq_iff_eq])
      rw [HDE.out] at HSAX
      have heb := HEB.out
      go_upto_region 8 with (go_at_call 50; (with_reducible refine HSAX.out.mono ?_); rintro e w16 ⟨rfl, hb16⟩)
      have HB16 := Lib.hid (HB15.out.trans (hb16.mono HB15.out.size))
      have HSZA : Hid (PA.size = TA.length) := Lib.hid (by rw [← HPA.out]; rfl)
      have hpm : PA.size ≤ 1000000 := by have := HSZA.out; omega
      have HBY : Hid (∀ (k : Nat) (h : k < PA.size), TA[k]? = some PA[k]) := Lib.hid (by
        have h1 := HPA.out
        subst h1
        intro k h
        have h2 : k < TA.length := h
        rw [List.getElem?_eq_getElem h2]
        rfl)
      clear heb hb16 g0 g1 g2 t0 t1 t2 u0 u1 u2 lG lT lU hpa hpb HSAX
      go_wp2
      go_loopw [16, 17, 18, 19] (fun ov sv bv i wr => ∃ k n1 n2 n3 : Nat, k ≤ PA.size ∧ i = .int .i64 k ∧ ov = .int .i64 n1 ∧ sv = .int .i64 n2 ∧ bv = .int .i64 n3 ∧ n1 ≤ k ∧ n2 ≤ k ∧ n3 ≤ k ∧ Hid (n1 = (TA.take k).count 40) ∧ Hid (n2 = (TA.take k).count 41) ∧ Hid (n3 = (TA.take k).count 32) ∧ w16 = wr) (fun _ _ _ i _ => PA.size - (intOf i).toNat)
      case atStart => exact ⟨0, 0, 0, 0, Nat.zero_le _, rfl, rfl, rfl, rfl, Nat.le_refl _, Nat.le_refl _, Nat.le_refl _, Lib.hid rfl, Lib.hid rfl, Lib.hid rfl, rfl⟩
      case round =>
        obtain ⟨k, n1, n2, n3, hk, rfl, rfl, rfl, rfl, hn1, hn2, hn3, HN1, HN2, HN3, rfl⟩ := hrel
        by_cases hlt : k < PA.size
        · have hby := HBY.out k hlt
          have e1 : (k : Int) < PA.size := by omega
          have HT1 : Hid (∀ y : UInt8, (TA.take (k + 1)).count y = (TA.take k).count y + if PA[k] = y then 1 else 0) := Lib.hid fun y => by
            rw [List.take_add_one, hby, List.count_append, Option.toList_some, List.count_singleton]
            congr 1
            by_cases h : PA[k] = y
            · rw [if_pos h, if_pos (beq_iff_eq.2 h)]
            · rw [if_neg h, if_neg (by rw [beq_iff_eq]; exact h)]
          have hcase : PA[k] = 40 ∨ PA[k] = 41 ∨ PA[k] = 32 ∨ (PA[k] ≠ 40 ∧ PA[k] ≠ 41 ∧ PA[k] ≠ 32) := by
            by_cases h1 : PA[k] = 40
            · exact .inl h1
            · by_cases h2 : PA[k] = 41
              · exact .inr (.inl h2)
              · by_cases h3 : PA[k] = 32
                · exact .inr (.inr (.inl h3))
                · exact .inr (.inr (.inr ⟨h1, h2, h3⟩))
          have hnat : ∀ y : UInt8, PA[k] ≠ y → PA[k].toNat ≠ y.toNat := fun y h e => h (UInt8.toNat_inj.1 e)
          have hN := Lib.hid hnat
          clear hby hnat
          rcases hcase with h | h | h | ⟨h1, h2, h3⟩
          · have d1 : ((PA[k].toNat : Int) == 40) = true := by rw [h]; rfl
            have H40 := Lib.hid (HT1.out 40)
            have H41 := Lib.hid (HT1.out 41)
            have H32 := Lib.hid (HT1.out 32)
            rw [h] at H40 H41 H32
            clear h HT1 hN
            go_wp2
            exact ⟨⟨k + 1, n1 + 1, n2, n3, by omega, by go_num, by go_num, rfl, rfl, by omega, by omega, by omega, Lib.hid (by rw [H40.out, HN1.out]; rfl), Lib.hid (by rw [H41.out, HN2.out]; rfl), Lib.hid (by rw [H32.out, HN3.out]; rfl), trivial⟩, by simp [intOf]; omega⟩
          · have d1 : ((PA[k].toNat : Int) == 40) = false := by rw [h]; rfl
            have d2 : ((PA[k].toNat : Int) == 41) = true := by rw [h]; rfl
            have H40 := Lib.hid (HT1.out 40)
            have H41 := Lib.hid (HT1.out 41)
            have H32 := Lib.hid (HT1.out 32)
            rw [h] at H40 H41 H32
            clear h HT1 hN
            go_wp2
            exact ⟨⟨k + 1, n1, n2 + 1, n3, by omega, by go_num, rfl, by go_num, rfl, by omega, by omega, by omega, Lib.hid (by rw [H40.out, HN1.out]; rfl), Lib.hid (by rw [H41.out, HN2.out]; rfl), Lib.hid (by rw [H32.out, HN3.out]; rfl), trivial⟩, by simp [intOf]; omega⟩
          · have d1 : ((PA[k].toNat : Int) == 40) = false := by rw [h]; rfl
            have d2 : ((PA[k].toNat : Int) == 41) = false := by rw [h]; rfl
            have d3 : ((PA[k].toNat : Int) == 32) = true := by rw [h]; rfl
            have H40 := Lib.hid (HT1.out 40)
            have H41 := Lib.hid (HT1.out 41)
            have H32 := Lib.hid (HT1.out 32)
            rw [h] at H40 H41 H32
            clear h HT1 hN
            go_wp2
            exact ⟨⟨k + 1, n1, n2, n3 + 1, by omega, by go_num, rfl, rfl, by go_num, by omega, by omega, by omega, Lib.hid (by rw [H40.out, HN1.out]; rfl), Lib.hid (by rw [H41.out, HN2.out]; rfl), Lib.hid (by rw [H32.out, HN3.out]; rfl), trivial⟩, by simp [intOf]; omega⟩
          · have d1 : ((PA[k].toNat : Int) == 40) = false := by rw [beq_eq_false_iff_ne]; have := hN.out 40 h1; intro e; exact this (by show PA[k].toNat = 40; omega)
            have d2 : ((PA[k].toNat : Int) == 41) = false := by rw [beq_eq_false_iff_ne]; have := hN.out 41 h2; intro e; exact this (by show PA[k].toNat = 41; omega)
            have d3 : ((PA[k].toNat : Int) == 32) = false := by rw [beq_eq_false_iff_ne]; have := hN.out 32 h3; intro e; exact this (by show PA[k].toNat = 32; omega)
            have H40 := Lib.hid (HT1.out 40)
            have H41 := Lib.hid (HT1.out 41)
            have H32 := Lib.hid (HT1.out 32)
            rw [if_neg h1] at H40
            rw [if_neg h2] at H41
            rw [if_neg h3] at H32
            clear h1 h2 h3 HT1 hN
            go_wp2
            exact ⟨⟨k + 1, n1, n2, n3, by omega, by go_num, rfl, rfl, rfl, by omega, by omega, by omega, Lib.hid (by rw [H40.out, HN1.out]; rfl), Lib.hid (by rw [H41.out, HN2.out]; rfl), Lib.hid (by rw [H32.out, HN3.out]; rfl), trivial⟩, by simp [intOf]; omega⟩
        · have e1 : ¬ (k : Int) < PA.size := by omega
          have htk : TA.take k = TA := List.take_of_length_le (by have := HSZA.out; omega)
          obtain ⟨s1, s2, s3, s4⟩ := HSG.out
          rw [htk] at HN1 HN2 HN3
          rw [← HN1.out] at s1 s2 s4
          rw [← HN2.out] at s2
          rw [← HN3.out] at s3
          rw [HPD.out] at s4
          have hsy100 := HM1.out.2.2
          have q1 : ((n1 : Int) == (n2 : Int)) = true := by rw [beq_iff_eq]; omega
          have q1n : (n1 == n2) = true := by rw [beq_iff_eq]; omega
          have hw2 : IntKind.i64.wrap ((sizeT tl.plain : Int) - 1) = (sizeT tl.plain : Int) - 1 := IntWalk.i64_in _ (by omega)
          have q2 : ((n3 : Int) == (sizeT tl.plain : Int) - 1) = true := by rw [beq_iff_eq]; omega
          have hw4 : IntKind.i64.wrap ((n1 : Int) + ((leavesT tl.plain).length : Int)) = (n1 : Int) + ((leavesT tl.plain).length : Int) := IntWalk.i64_in _ (by omega)
          have q4 : ((n1 : Int) + ((leavesT tl.plain).length : Int) == (sizeT tl.plain : Int)) = true := by rw [beq_iff_eq]; omega
          have q5 : decide (tl.sym ≥ 100) = true := decide_eq_true hsy100
          have q5b : (100 : Int) ≤ tl.sym := hsy100
          have q3 : (decide ((n1 : Int) > 0) = true ∧ (tl.prod != -1) = true ∧ 0 < n1) ∨ (decide ((n1 : Int) > 0) = false ∧ (tl.prod != -1) = false ∧ ¬ 0 < n1) := by
            by_cases h : 0 < n1
            · exact .inl ⟨decide_eq_true (by omega), bne_iff_ne.2 (s4.1 h), h⟩
            · refine .inr ⟨decide_eq_false (by omega), ?_, h⟩
              have : tl.prod = -1 := by
                by_cases hp : tl.prod = -1
                · exact hp
                · exact absurd (s4.2 hp) h
              rw [this]; rfl
          have HBFd : Hid (Below S3.heap.size S3 w16.drew) := Lib.hid HB16.out.drew
          obtain ⟨⟨⟨g0, g1, g2⟩, ⟨t0, t1, t2⟩, ⟨u0, u1, u2⟩⟩, _⟩ := HCX.out _ HB16.out
          have lT : B1 < w16.heap.size := Nat.lt_of_lt_of_le (heap_lt HT.out.t) HB16.out.size
          clear s1 s2 s3 s4 htk HSG HN1 HN2 HN3 HP1 HP2 HSA
          generalize sizeT tl.plain = sz at *
          generalize leavesT tl.plain = LL at *
          rcases q3 with ⟨q31, q32, q33⟩ | ⟨q31, q32, q33⟩
          all_goals
            go_upto_region 18 with fail
            go_region_held3 (fun w' => ((w'.cell? ⟨BG, 0, none⟩ = some (.slice a1 g.terms.length c1) ∧ w'.cell? ⟨BG, 1, none⟩ = some (.slice a2 g.nons.length c2) ∧ w'.cell? ⟨BG, 2, none⟩ = some (.slice a3 g.prods.length c3)) ∧ (w'.cell? ⟨B1, 0, none⟩ = some (.int .i64 tl.sym) ∧ w'.cell? ⟨B1, 1, none⟩ = some (.int .i64 tl.prod) ∧ w'.cell? ⟨B1, 2, none⟩ = some (.slice tl.a tl.kids.length tl.c)) ∧ (w'.cell? ⟨B2, 0, none⟩ = some (.int .i64 ul.sym) ∧ w'.cell? ⟨B2, 1, none⟩ = some (.int .i64 ul.prod) ∧ w'.cell? ⟨B2, 2, none⟩ = some (.slice ul.a ul.kids.length ul.c))) ∧ Hid (Below S3.heap.size S3 w'))
              (first | (exact HKX.out _ _ HB16 (Below.refl _ _).drew) | (exact HKX.out _ _ (And.right (show _ ∧ Hid (Below S3.heap.size S3 _) by assumption)) (by assumption)) | go_keep)
              (first
                | (go_at_call 49; (with_reducible refine (HSI.out _ (And.right (show _ ∧ Hid (Below S3.heap.size S3 _) by assumption)).out).mono ?_); rintro e w17 ⟨rfl, hb17⟩)
                | (go_at_call 48; (with_reducible refine (HLV.out _ (And.right (show _ ∧ Hid (Below S3.heap.size S3 _) by assumption)).out).mono ?_); rintro e w18 ⟨hb18, la5, lc5, rfl, ho18⟩)
                | (go_at_call 51; refine (HWK.out _).mono ?_; rintro e w19 ⟨rfl, hb19⟩))
            all_goals
              go_wp2
              go_ret
              exact ⟨rfl, HBW.out.trans ((And.right (show _ ∧ Hid (Below S3.heap.size S3 _) by assumption)).out.mono HBW.out.size)⟩

end Go.Proofs.Ytjlohjkhnjemaaa
