/- gram's small functions on symbols and productions: walked. -/
import Derived.Test.YtdnlbmdmaiacaaaSlices
import Derived.Test.YtdnlbmdmaiacaaaCut
namespace Go.Proofs.Ytdnlbmdmaiacaaa
open Go.RowKit
open Doc

theorem isNon_any (v : Value) (g : Gr) (s : Int) (w : World) (hg : GramAt w v g) (hs : s ≤ 9223372036854775807) :
    Calls Try.prog 71 #[v, .int .i64 s] w fun e w' => e = .returned (.bool (nonB g s)) ∧ Below w.heap.size w w' := by
  obtain ⟨a1, a2, a3, c1, c2, c3, ls, rfl, hp, h1, h2, h3, h4, _⟩ := hg
  have hS : ∀ x, Below w.heap.size w (w.alloc x) := fun x => (Below.refl _ _).alloc (Nat.le_refl _) _
  have HS := Lib.hid hS
  clear hS h1 h2 h3 h4
  by_cases h100 : 100 ≤ s
  · go_enter Try.func71, Try.ntmps71
    go_wp2
    go_ret
    exact ⟨ret_bool (by unfold nonB; rw [decide_eq_true h100, Bool.true_and, decide_eq_decide]; omega), HS.out _⟩
  · go_enter Try.func71, Try.ntmps71
    go_wp2
    go_ret
    exact ⟨ret_bool (by unfold nonB; rw [decide_eq_false (by omega)]; rfl), HS.out _⟩

/-- A terminal of g. -/
def termB (g : Gr) (s : Int) : Bool := decide (1 ≤ s) && decide (s ≤ (g.terms.length : Int))

theorem isTerm_any (v : Value) (g : Gr) (s : Int) (w : World) (hg : GramAt w v g) :
    Calls Try.prog 69 #[v, .int .i64 s] w fun e w' => e = .returned (.bool (termB g s)) ∧ Below w.heap.size w w' := by
  obtain ⟨a1, a2, a3, c1, c2, c3, ls, rfl, hp, h1, h2, h3, h4, _⟩ := hg
  have hS : ∀ x, Below w.heap.size w (w.alloc x) := fun x => (Below.refl _ _).alloc (Nat.le_refl _) _
  have HS := Lib.hid hS
  clear hS h1 h2 h3 h4
  by_cases h100 : 1 ≤ s
  · go_enter Try.func69, Try.ntmps69
    go_wp2
    go_ret
    exact ⟨ret_bool (by unfold termB; rw [decide_eq_true h100]; rfl), HS.out _⟩
  · go_enter Try.func69, Try.ntmps69
    go_wp2
    go_ret
    exact ⟨ret_bool (by unfold termB; rw [decide_eq_false (by omega)]; rfl), HS.out _⟩

theorem gfind_any (v : Value) (g : Gr) (n : List UInt8) (w : World) (hg : GramAt w v g) (hl : g.nons.length ≤ 1000000) (hl2 : g.terms.length ≤ 1000000) :
    Calls Try.prog 28 #[v, .string ⟨n.toArray⟩] w fun e w' => e = .returned (.tuple #[.int .i64 (findG g n).1, .bool (findG g n).2]) ∧ Below w.heap.size w w' := by
  obtain ⟨a1, a2, a3, c1, c2, c3, ls, rfl, hp, h1, h2, h3, h4, _⟩ := hg
  have hS : ∀ x, Below w.heap.size w (w.alloc x) := fun x => (Below.refl _ _).alloc (Nat.le_refl _) _
  have F1 := Lib.hid fun x => index_any a1 c1 g.terms n (w.alloc x) (h1.below (hS x)) hl2
  have F2 := Lib.hid fun x => index_any a2 c2 g.nons n (w.alloc x) (h2.below (hS x)) hl
  clear h1 h2 h3 h4
  by_cases h36 : n = [36]
  · subst h36
    go_enter Try.func28, Try.ntmps28
    go_wp2
    go_ret2
    exact ⟨rfl, hS _⟩
  · have hb : (n == [36]) = false := by simpa using h36
    cases hi : idx g.terms n with
    | some k =>
      have hk := (List.getElem?_eq_some_iff.1 (idx_at' hi)).1
      have hres := Lib.hid (show findG g n = ((k : Int) + 1, true) by unfold findG; rw [if_neg h36, hi])
      rw [hi] at F1
      simp only [oint] at F1
      go_enter Try.func28, Try.ntmps28
      go_wp2_with (go_at_call 68; refine (F1.out _).mono ?_; rintro e w2 ⟨rfl, rfl⟩)
      go_ret2
      exact ⟨by rw [hres.out, Int.add_comm]; rfl, hS _⟩
    | none =>
      rw [hi] at F1
      simp only [oint] at F1
      cases hj : idx g.nons n with
      | some k =>
        have hk := (List.getElem?_eq_some_iff.1 (idx_at' hj)).1
        have hres := Lib.hid (show findG g n = (100 + (k : Int), true) by unfold findG; rw [if_neg h36, hi, hj])
        rw [hj] at F2
        simp only [oint] at F2
        go_enter Try.func28, Try.ntmps28
        go_wp2_with (first
          | (go_at_call 68; with_reducible refine (F1.out _).mono ?_; rintro e w2 ⟨rfl, rfl⟩)
          | (go_at_call 68; with_reducible refine (F2.out _).mono ?_; rintro e w2 ⟨rfl, rfl⟩))
        go_ret2
        exact ⟨by rw [hres.out]; rfl, hS _⟩
      | none =>
        have hres := Lib.hid (show findG g n = (0, false) by unfold findG; rw [if_neg h36, hi, hj])
        rw [hj] at F2
        simp only [oint] at F2
        go_enter Try.func28, Try.ntmps28
        go_wp2_with (first
          | (go_at_call 68; with_reducible refine (F1.out _).mono ?_; rintro e w2 ⟨rfl, rfl⟩)
          | (go_at_call 68; with_reducible refine (F2.out _).mono ?_; rintro e w2 ⟨rfl, rfl⟩))
        go_ret2
        exact ⟨by rw [hres.out]; rfl, hS _⟩


/-- A production's value. -/
def prodV (q : Lay) : Value := .agg #[.int .i64 q.left, .slice q.addr q.right.length q.cap]

theorem alike_any (p q : Lay) (w : World) (hp : Cells w p.addr (nums p.right)) (hq : Cells w q.addr (nums q.right)) (hpl : p.right.length ≤ 1000000) (hql : q.right.length ≤ 1000000) :
    Calls Try.prog 67 #[prodV p, prodV q] w fun e w' => e = .returned (.bool (decide (p.plain = q.plain))) ∧ Below w.heap.size w w' := by
  have hS : ∀ x y, Below w.heap.size w ((w.alloc x).alloc y) := fun x y => ((Below.refl _ _).alloc (Nat.le_refl _) _).alloc (by simp) _
  have HE := Lib.hid fun x y => equalI_any _ _ p.cap q.cap p.right q.right ((w.alloc x).alloc y) (hp.below (hS x y)) (hq.below (hS x y)) hpl hql
  have HS := Lib.hid hS
  obtain ⟨pl, pr, pa, pc⟩ := p
  obtain ⟨ql, qr, qa, qc⟩ := q
  unfold prodV
  clear hS hp hq
  simp only [Lay.plain] at *
  by_cases hl : pl = ql
  · have hlb : (pl == ql) = true := by simp [hl]
    have hres := Lib.hid (show decide ((pl, pr) = (ql, qr)) = decide (pr = qr) by rw [hl]; simp)
    clear hl
    go_enter Try.func67, Try.ntmps67
    go_wp2_with (go_at_call 102; refine (HE.out _ _).mono ?_; rintro e w2 ⟨rfl, n, rfl⟩)
    go_ret
    exact ⟨ret_bool hres.out.symm, below_drews (HS.out _ _) _⟩
  · have hlb : (pl == ql) = false := by simpa using hl
    have hres := Lib.hid (show decide ((pl, pr) = (ql, qr)) = false by rw [decide_eq_false_iff_not]; intro e; exact hl (congrArg Prod.fst e))
    clear hl
    go_enter Try.func67, Try.ntmps67
    go_wp2
    go_ret
    exact ⟨ret_bool hres.out.symm, HS.out _ _⟩

theorem stands1_any (p q : Lay) (w : World) (B : Nat) (hp : Cells w p.addr (nums p.right)) (hq : Cells w q.addr (nums q.right)) (hpl : p.right.length ≤ 1000000) (hql : q.right.length ≤ 1000000) (hB : B < w.heap.size)
    (h0 : w.cell? ⟨B, 0, none⟩ = some (.int .i64 p.left)) (h1 : w.cell? ⟨B, 1, none⟩ = some (.slice p.addr p.right.length p.cap)) :
    Calls Try.prog 116 #[prodV q, .pointer (some ⟨B, 0, none⟩)] w fun e w' => e = .returned (.bool (decide (p.plain = q.plain))) ∧ Below w.heap.size w w' := by
  have hS : ∀ x, Below w.heap.size w (w.alloc x) := fun x => (Below.refl _ _).alloc (Nat.le_refl _) _
  have HA := Lib.hid fun x => alike_any p q (w.alloc x) (hp.below (hS x)) (hq.below (hS x)) hpl hql
  have HS := Lib.hid hS
  obtain ⟨pl, pr, pa, pc⟩ := p
  obtain ⟨ql, qr, qa, qc⟩ := q
  unfold prodV at *
  clear hS hp hq
  simp only at *
  go_enter Try.func116, Try.ntmps116
  go_wp2_with (go_at_call 67; refine (HA.out _).mono ?_; rintro e w2 ⟨rfl, hb2⟩)
  go_ret
  exact ⟨rfl, (HS.out _).trans (hb2.mono (HS.out _).size)⟩

theorem hasProd1_any (l : Int) (q : Lay) (w : World) (B : Nat) (h0 : w.cell? ⟨B, 0, none⟩ = some (.int .i64 l)) (hB : B < w.heap.size) :
    Calls Try.prog 117 #[prodV q, .pointer (some ⟨B, 0, none⟩)] w fun e w' => e = .returned (.bool (decide (q.left = l))) ∧ Below w.heap.size w w' := by
  have hS : ∀ x, Below w.heap.size w (w.alloc x) := fun x => (Below.refl _ _).alloc (Nat.le_refl _) _
  have HS := Lib.hid hS
  obtain ⟨ql, qr, qa, qc⟩ := q
  unfold prodV at *
  clear hS
  simp only at *
  go_enter Try.func117, Try.ntmps117
  go_wp2
  go_ret
  exact ⟨rfl, HS.out _⟩

theorem findIdx_first {α : Type} {l : List α} {f : α → Bool} {k : Nat} {x : α} (h : l[k]? = some x) (hf : f x = true) (hb : ∀ j q, j < k → l[j]? = some q → f q = false) : l.findIdx? f = some k := by
  obtain ⟨hk, e⟩ := List.getElem?_eq_some_iff.1 h
  rw [List.findIdx?_eq_some_iff_getElem]
  refine ⟨hk, by rw [e]; exact hf, fun j hj => ?_⟩
  have := hb j l[j] hj (List.getElem?_eq_getElem (by omega))
  simp [this]
theorem findIdx_never {α : Type} {l : List α} {f : α → Bool} (hb : ∀ (j : Nat) q, l[j]? = some q → f q = false) : l.findIdx? f = none := by
  rw [List.findIdx?_eq_none_iff]
  intro x hx
  obtain ⟨j, hj, e⟩ := List.getElem_of_mem hx
  exact hb j x (by rw [List.getElem?_eq_getElem hj, e])

set_option maxHeartbeats 1000000 in
theorem indexS_any (cv : Value) (f : Lay → Bool) (a : Option Addr) (cap : Nat) (ls : List Lay) (w : World) (h : Cells w a (lays ls)) (hl : ls.length ≤ 1000000)
    (hF : ∀ q ∈ ls, ∀ W, Below w.heap.size w W → Calls Try.prog 116 #[prodV q, cv] W fun e w' => e = .returned (.bool (f q)) ∧ Below W.heap.size W w') :
    Calls Try.prog 124 #[.slice a ls.length cap, .func (.func 116) #[] #[cv]] w fun e w' => e = .returned (.int .i64 (oint (ls.findIdx? f))) ∧ Below w.heap.size w w' := by
  have HH := Lib.hid h
  have HF := Lib.hid hF
  clear h hF
  go_enter Try.func124, Try.ntmps124
  go_wp2
  go_loopw [8] (fun i wr => ∃ k : Nat, k ≤ ls.length ∧ i = .int .i64 k ∧ Below w.heap.size w wr ∧ Hid (∀ j q, j < k → ls[j]? = some q → f q = false)) (fun i _ => ls.length - (intOf i).toNat)
  case atStart => exact ⟨0, Nat.zero_le _, rfl, Below.refl _ _, Lib.hid (by intro j q hj; omega)⟩
  case round =>
    obtain ⟨k, hk, rfl, hb, HB⟩ := hrel
    by_cases hlt : k < ls.length
    · obtain ⟨q, hq⟩ : ∃ q, ls[k]? = some q := ⟨_, List.getElem?_eq_getElem hlt⟩
      obtain ⟨b, off, rfl, hbl, hc⟩ := (HH.out.below hb).get (by intro e; have := (lays_at ls k q hq).1; rw [e] at this; simp at this)
      have c0 := hc _ _ (lays_at ls k q hq).1
      have c1 := hc _ _ (lays_at ls k q hq).2
      rw [← Nat.add_assoc] at c1
      have e1 : (k : Int) < ls.length := by omega
      have HC := Lib.hid (HF.out q (List.mem_of_getElem? hq) wr hb)
      have HQ := Lib.hid hq
      have HW := Lib.hid hb
      obtain ⟨ql, qr, qa, qc⟩ := q
      unfold prodV at HC
      simp only at *
      clear hc hq
      cases hf : f ⟨ql, qr, qa, qc⟩ with
      | true =>
        go_wp2_with (go_at_call 116; refine HC.out.mono ?_; rintro e w2 ⟨rfl, hb2⟩; simp only [hf])
        go_ret
        refine ⟨ret_int ?_, HW.out.trans (hb2.mono HW.out.size)⟩
        rw [findIdx_first HQ.out hf HB.out]; rfl
      | false =>
        go_wp2_with (go_at_call 116; refine HC.out.mono ?_; rintro e w2 ⟨rfl, hb2⟩; simp only [hf])
        refine ⟨⟨k + 1, by omega, by go_num, HW.out.trans (hb2.mono HW.out.size), Lib.hid fun j q hj hq => ?_⟩, by simp [intOf]; omega⟩
        by_cases hjk : j = k
        · subst hjk; rw [HQ.out] at hq; cases hq; exact hf
        · exact HB.out j q (by omega) hq
    · have e1 : ¬ (k : Int) < ls.length := by omega
      go_wp2
      go_ret
      refine ⟨ret_int ?_, hb⟩
      rw [findIdx_never fun j q hq => HB.out j q (by have := (List.getElem?_eq_some_iff.1 hq).1; omega) hq]; rfl


theorem containsS_any (cv : Value) (f : Lay → Bool) (a : Option Addr) (cap : Nat) (ls : List Lay) (w : World) (h : Cells w a (lays ls)) (hl : ls.length ≤ 1000000)
    (hF : ∀ q ∈ ls, ∀ W, Below w.heap.size w W → Calls Try.prog 116 #[prodV q, cv] W fun e w' => e = .returned (.bool (f q)) ∧ Below W.heap.size W w') :
    Calls Try.prog 115 #[.slice a ls.length cap, .func (.func 116) #[] #[cv]] w fun e w' => e = .returned (.bool (ls.any f)) ∧ Below w.heap.size w w' := by
  have HI := Lib.hid (indexS_any cv f a cap ls w h hl hF)
  clear hF h
  cases hi : ls.findIdx? f with
  | none =>
    have hr := Lib.hid (show ls.any f = false by
      rw [List.any_eq_false]
      intro x hx
      have := List.findIdx?_eq_none_iff.1 hi x hx
      simp [this])
    go_enter Try.func115, Try.ntmps115
    go_wp2_with (go_at_call 124; refine HI.out.mono ?_; rintro e w2 ⟨rfl, hb2⟩; rw [hi]; simp only [oint])
    go_ret
    exact ⟨ret_bool hr.out.symm, hb2⟩
  | some k =>
    have hr := Lib.hid (show ls.any f = true by
      obtain ⟨hk, h1, _⟩ := List.findIdx?_eq_some_iff_getElem.1 hi
      rw [List.any_eq_true]
      exact ⟨_, List.getElem_mem hk, h1⟩)
    go_enter Try.func115, Try.ntmps115
    go_wp2_with (go_at_call 124; refine HI.out.mono ?_; rintro e w2 ⟨rfl, hb2⟩; rw [hi]; simp only [oint])
    go_ret
    exact ⟨ret_bool (by rw [hr.out]), hb2⟩

set_option maxHeartbeats 1000000 in
theorem indexH_any (cv : Value) (f : Lay → Bool) (a : Option Addr) (cap : Nat) (ls : List Lay) (w : World) (h : Cells w a (lays ls)) (hl : ls.length ≤ 1000000)
    (hF : ∀ q ∈ ls, ∀ W, Below w.heap.size w W → Calls Try.prog 117 #[prodV q, cv] W fun e w' => e = .returned (.bool (f q)) ∧ Below W.heap.size W w') :
    Calls Try.prog 124 #[.slice a ls.length cap, .func (.func 117) #[] #[cv]] w fun e w' => e = .returned (.int .i64 (oint (ls.findIdx? f))) ∧ Below w.heap.size w w' := by
  have HH := Lib.hid h
  have HF := Lib.hid hF
  clear h hF
  go_enter Try.func124, Try.ntmps124
  go_wp2
  go_loopw [8] (fun i wr => ∃ k : Nat, k ≤ ls.length ∧ i = .int .i64 k ∧ Below w.heap.size w wr ∧ Hid (∀ j q, j < k → ls[j]? = some q → f q = false)) (fun i _ => ls.length - (intOf i).toNat)
  case atStart => exact ⟨0, Nat.zero_le _, rfl, Below.refl _ _, Lib.hid (by intro j q hj; omega)⟩
  case round =>
    obtain ⟨k, hk, rfl, hb, HB⟩ := hrel
    by_cases hlt : k < ls.length
    · obtain ⟨q, hq⟩ : ∃ q, ls[k]? = some q := ⟨_, List.getElem?_eq_getElem hlt⟩
      obtain ⟨b, off, rfl, hbl, hc⟩ := (HH.out.below hb).get (by intro e; have := (lays_at ls k q hq).1; rw [e] at this; simp at this)
      have c0 := hc _ _ (lays_at ls k q hq).1
      have c1 := hc _ _ (lays_at ls k q hq).2
      rw [← Nat.add_assoc] at c1
      have e1 : (k : Int) < ls.length := by omega
      have HC := Lib.hid (HF.out q (List.mem_of_getElem? hq) wr hb)
      have HQ := Lib.hid hq
      have HW := Lib.hid hb
      obtain ⟨ql, qr, qa, qc⟩ := q
      unfold prodV at HC
      simp only at *
      clear hc hq
      cases hf : f ⟨ql, qr, qa, qc⟩ with
      | true =>
        go_wp2_with (go_at_call 117; refine HC.out.mono ?_; rintro e w2 ⟨rfl, hb2⟩; simp only [hf])
        go_ret
        refine ⟨ret_int ?_, HW.out.trans (hb2.mono HW.out.size)⟩
        rw [findIdx_first HQ.out hf HB.out]; rfl
      | false =>
        go_wp2_with (go_at_call 117; refine HC.out.mono ?_; rintro e w2 ⟨rfl, hb2⟩; simp only [hf])
        refine ⟨⟨k + 1, by omega, by go_num, HW.out.trans (hb2.mono HW.out.size), Lib.hid fun j q hj hq => ?_⟩, by simp [intOf]; omega⟩
        by_cases hjk : j = k
        · subst hjk; rw [HQ.out] at hq; cases hq; exact hf
        · exact HB.out j q (by omega) hq
    · have e1 : ¬ (k : Int) < ls.length := by omega
      go_wp2
      go_ret
      refine ⟨ret_int ?_, hb⟩
      rw [findIdx_never fun j q hq => HB.out j q (by have := (List.getElem?_eq_some_iff.1 hq).1; omega) hq]; rfl


theorem containsH_any (cv : Value) (f : Lay → Bool) (a : Option Addr) (cap : Nat) (ls : List Lay) (w : World) (h : Cells w a (lays ls)) (hl : ls.length ≤ 1000000)
    (hF : ∀ q ∈ ls, ∀ W, Below w.heap.size w W → Calls Try.prog 117 #[prodV q, cv] W fun e w' => e = .returned (.bool (f q)) ∧ Below W.heap.size W w') :
    Calls Try.prog 115 #[.slice a ls.length cap, .func (.func 117) #[] #[cv]] w fun e w' => e = .returned (.bool (ls.any f)) ∧ Below w.heap.size w w' := by
  have HI := Lib.hid (indexH_any cv f a cap ls w h hl hF)
  clear hF h
  cases hi : ls.findIdx? f with
  | none =>
    have hr := Lib.hid (show ls.any f = false by
      rw [List.any_eq_false]
      intro x hx
      have := List.findIdx?_eq_none_iff.1 hi x hx
      simp [this])
    go_enter Try.func115, Try.ntmps115
    go_wp2_with (go_at_call 124; refine HI.out.mono ?_; rintro e w2 ⟨rfl, hb2⟩; rw [hi]; simp only [oint])
    go_ret
    exact ⟨ret_bool hr.out.symm, hb2⟩
  | some k =>
    have hr := Lib.hid (show ls.any f = true by
      obtain ⟨hk, h1, _⟩ := List.findIdx?_eq_some_iff_getElem.1 hi
      rw [List.any_eq_true]
      exact ⟨_, List.getElem_mem hk, h1⟩)
    go_enter Try.func115, Try.ntmps115
    go_wp2_with (go_at_call 124; refine HI.out.mono ?_; rintro e w2 ⟨rfl, hb2⟩; rw [hi]; simp only [oint])
    go_ret
    exact ⟨ret_bool (by rw [hr.out]), hb2⟩


theorem stands_any (a : Option Addr) (cap : Nat) (ls : List Lay) (p : Lay) (w : World) (h : Cells w a (lays ls)) (hl : ls.length ≤ 1000000) (hp : Cells w p.addr (nums p.right)) (hpl : p.right.length ≤ 1000000) (hq : ∀ q ∈ ls, Cells w q.addr (nums q.right) ∧ q.right.length ≤ 1000000) :
    Calls Try.prog 96 #[.slice a ls.length cap, prodV p] w fun e w' => e = .returned (.bool (ls.any fun q => decide (p.plain = q.plain))) ∧ Below w.heap.size w w' := by
  have hmf : ∀ (fn : Fn) (first cap : Array Value) (w : World), (Instr.makeFunc fn first cap).run Try.prog w = .ok (.func fn first cap) w := fun _ _ _ _ => rfl
  have hS : Below w.heap.size w (w.alloc (.cells #[.int .i64 p.left, .slice p.addr p.right.length p.cap] 37)) := (Below.refl _ _).alloc (Nat.le_refl _) _
  have HC := Lib.hid (containsS_any (.pointer (some ⟨w.heap.size, 0, none⟩)) (fun q => decide (p.plain = q.plain)) a cap ls (w.alloc (.cells #[.int .i64 p.left, .slice p.addr p.right.length p.cap] 37)) (h.below hS) hl
    (fun q hqm W hW => stands1_any p q W w.heap.size ((hp.below hS).below hW) (((hq q hqm).1.below hS).below hW) hpl (hq q hqm).2 (Nat.lt_of_lt_of_le (by simp) hW.size)
      ((hW.cell (p := ⟨w.heap.size, 0, none⟩) (by simp)).trans (by go_simp)) ((hW.cell (p := ⟨w.heap.size, 1, none⟩) (by simp)).trans (by go_simp))))
  have HS := Lib.hid hS
  obtain ⟨pl, pr, pa, pc⟩ := p
  unfold prodV
  simp only at *
  clear hS h hp hq
  go_enter Try.func96, Try.ntmps96
  go_wp2_with (go_at_call 115; refine HC.out.mono ?_; rintro e w2 ⟨rfl, hb2⟩)
  go_ret
  exact ⟨rfl, HS.out.trans (hb2.mono HS.out.size)⟩

theorem hasProd_any (a : Option Addr) (cap : Nat) (ls : List Lay) (l : Int) (w : World) (h : Cells w a (lays ls)) (hl : ls.length ≤ 1000000) :
    Calls Try.prog 97 #[.slice a ls.length cap, .int .i64 l] w fun e w' => e = .returned (.bool (ls.any fun q => decide (q.left = l))) ∧ Below w.heap.size w w' := by
  have hmf : ∀ (fn : Fn) (first cap : Array Value) (w : World), (Instr.makeFunc fn first cap).run Try.prog w = .ok (.func fn first cap) w := fun _ _ _ _ => rfl
  have hS : Below w.heap.size w (w.alloc (.cells #[.int .i64 l] 3)) := (Below.refl _ _).alloc (Nat.le_refl _) _
  have HC := Lib.hid (containsH_any (.pointer (some ⟨w.heap.size, 0, none⟩)) (fun q => decide (q.left = l)) a cap ls (w.alloc (.cells #[.int .i64 l] 3)) (h.below hS) hl
    (fun q _ W hW => hasProd1_any l q W w.heap.size ((hW.cell (p := ⟨w.heap.size, 0, none⟩) (by simp)).trans (by go_simp)) (Nat.lt_of_lt_of_le (by simp) hW.size)))
  have HS := Lib.hid hS
  clear hS h
  go_enter Try.func97, Try.ntmps97
  go_wp2_with (go_at_call 115; refine HC.out.mono ?_; rintro e w2 ⟨rfl, hb2⟩)
  go_ret
  exact ⟨rfl, HS.out.trans (hb2.mono HS.out.size)⟩

end Go.Proofs.Ytdnlbmdmaiacaaa
