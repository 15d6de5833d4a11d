/- DeriveErrors: walked. -/
import Derived.Test.YtgfkkbpnphbdgaaDerTs
import Derived.Deep.Cut
set_option linter.unusedVariables false
set_option linter.unusedSimpArgs false
namespace Go.Proofs.Ytgfkkbpnphbdgaa
open Go.RowKit
open Doc Dr

def ge9 : Gr := ⟨[[97], [98]], [[83]], [(100, [1, 100]), (100, [2])]⟩
theorem ge9_parse : parse (textsL.getD ((1 : Int) % 17).toNat []) = .ok ge9 := by decide +kernel
theorem ge9_check : CheckG ge9 := (chk_iff ge9).1 (by decide +kernel)
def gz9 : Gr := ⟨[], [], []⟩
theorem gz9_no : ¬ CheckG gz9 := fun h => by have := h.t1; simp [gz9] at this
theorem gz9_mid : MidG gz9 := ⟨⟨by decide, fun x hx => by cases hx⟩, ⟨by decide, fun x hx => by cases hx⟩, ⟨by decide, fun x hx => by cases hx⟩⟩
theorem gz9_at (W : World) : GramAt W (.agg #[.slice none 0 0, .slice none 0 0, .slice none 0 0]) gz9 := ⟨none, none, none, 0, 0, 0, [], rfl, rfl, .inl rfl, .inl rfl, .inl rfl, (fun p hp => by cases hp), Nat.le_refl _, Nat.le_refl _, Nat.le_refl _⟩
/-- What is asked for: root, word, most. -/
def tabR (n : Int) : List Int := [0, 3, -n, 100 + n, 100, 100, 100, 100, 100, 100]
def tabW (n : Int) : List (List Int) := [[], [], [], [], [0], [1, 3], [100 + n], List.replicate 13 0, [], []]
def tabM (n : Int) : List Int := [1, 1, 1, 1, 1, 1, 1, 1, -n, 200 + n]
theorem tab_no (n : Int) (h1 : 1 ≤ n) (h2 : n ≤ 50) : ∀ k, k < 10 → ¬ AskP ge9 ((tabR n).getD k 0) ((tabW n).getD k []) ((tabM n).getD k 0) := by
  intro k hk h
  obtain ⟨_, b, c, d, e, f⟩ := h
  rw [symB_iff] at b
  simp only [symB_iff] at f
  rcases (show k = 0 ∨ k = 1 ∨ k = 2 ∨ k = 3 ∨ k = 4 ∨ k = 5 ∨ k = 6 ∨ k = 7 ∨ k = 8 ∨ k = 9 by omega) with rfl | rfl | rfl | rfl | rfl | rfl | rfl | rfl | rfl | rfl
  all_goals simp [tabR, tabW, tabM, ge9, symOk] at b c d e f
  all_goals omega
theorem five_at (w : World) (o0 o1 o2 o3 o4 : Obj) : (((((w.alloc o0).alloc o1).alloc o2).alloc o3).alloc o4).heap[w.heap.size]? = some o0 ∧ (((((w.alloc o0).alloc o1).alloc o2).alloc o3).alloc o4).heap[w.heap.size + 1]? = some o1 ∧ (((((w.alloc o0).alloc o1).alloc o2).alloc o3).alloc o4).heap[w.heap.size + 1 + 1]? = some o2 ∧ (((((w.alloc o0).alloc o1).alloc o2).alloc o3).alloc o4).heap[w.heap.size + 1 + 1 + 1]? = some o3 ∧ (((((w.alloc o0).alloc o1).alloc o2).alloc o3).alloc o4).heap[w.heap.size + 1 + 1 + 1 + 1]? = some o4 ∧ Below w.heap.size w (((((w.alloc o0).alloc o1).alloc o2).alloc o3).alloc o4) := by
  have h1 := heap_alloc_new w o0
  have h2 := heap_alloc_new (w.alloc o0) o1
  have h3 := heap_alloc_new ((w.alloc o0).alloc o1) o2
  have h4 := heap_alloc_new (((w.alloc o0).alloc o1).alloc o2) o3
  have h5 := heap_alloc_new ((((w.alloc o0).alloc o1).alloc o2).alloc o3) o4
  have b1 := box_belowT w o0
  have b2 := box_belowT (w.alloc o0) o1
  have b3 := box_belowT ((w.alloc o0).alloc o1) o2
  have b4 := box_belowT (((w.alloc o0).alloc o1).alloc o2) o3
  have b5 := box_belowT ((((w.alloc o0).alloc o1).alloc o2).alloc o3) o4
  have s1 : (w.alloc o0).heap.size = w.heap.size + 1 := by simp
  have s2 : ((w.alloc o0).alloc o1).heap.size = w.heap.size + 1 + 1 := by simp
  have s3 : (((w.alloc o0).alloc o1).alloc o2).heap.size = w.heap.size + 1 + 1 + 1 := by simp
  have s4 : ((((w.alloc o0).alloc o1).alloc o2).alloc o3).heap.size = w.heap.size + 1 + 1 + 1 + 1 := by simp
  rw [s1] at h2 b2
  rw [s2] at h3 b3
  rw [s3] at h4 b4
  rw [s4] at h5 b5
  refine ⟨?_, ?_, ?_, ?_, h5, ?_⟩
  · rw [b5.block _ (by omega), b4.block _ (by omega), b3.block _ (by omega), b2.block _ (by omega)]; exact h1
  · rw [b5.block _ (by omega), b4.block _ (by omega), b3.block _ (by omega)]; exact h2
  · rw [b5.block _ (by omega), b4.block _ (by omega)]; exact h3
  · rw [b5.block _ (by omega)]; exact h4
  · exact b1.trans ((b2.mono (by omega)).trans ((b3.mono (by omega)).trans ((b4.mono (by omega)).trans (b5.mono (by omega)))))
theorem cells_of {W : World} {b : Nat} {cs : Array Value} {ty : TypeId} {l : List Value} (h : W.heap[b]? = some (.cells cs ty)) (e : cs.toList = l) : Cells W (some ⟨b, 0, none⟩) l :=
  .inr ⟨b, 0, rfl, heap_lt h, fun j v hj => by rw [Nat.zero_add]; exact (blk_cell h (by rw [← e] at hj; simpa using hj)).1⟩
set_option maxRecDepth 100000 in
theorem tab_at (S : World) (n : Int) : ∀ k, k < 10 → ∃ (a : Option Addr) (c : Nat), (((((S.alloc (.cells #[.int .i64 0] 3)).alloc (.cells #[.int .i64 1, .int .i64 3] 3)).alloc (.cells #[.int .i64 (100 + n)] 3)).alloc (.cells #[.int .i64 0, .int .i64 0, .int .i64 0, .int .i64 0, .int .i64 0, .int .i64 0, .int .i64 0, .int .i64 0, .int .i64 0, .int .i64 0, .int .i64 0, .int .i64 0, .int .i64 0] 3)).alloc (.cells #[.int .i64 0, .slice none 0 0, .int .i64 1, .int .i64 3, .slice none 0 0, .int .i64 1, .int .i64 (-n), .slice none 0 0, .int .i64 1, .int .i64 (100 + n), .slice none 0 0, .int .i64 1, .int .i64 100, .slice (some ⟨S.heap.size, 0, none⟩) 1 1, .int .i64 1, .int .i64 100, .slice (some ⟨S.heap.size + 1, 0, none⟩) 2 2, .int .i64 1, .int .i64 100, .slice (some ⟨S.heap.size + 1 + 1, 0, none⟩) 1 1, .int .i64 1, .int .i64 100, .slice (some ⟨S.heap.size + 1 + 1 + 1, 0, none⟩) 13 13, .int .i64 1, .int .i64 100, .slice none 0 0, .int .i64 (-n), .int .i64 100, .slice none 0 0, .int .i64 (200 + n)] 42)).cell? ⟨S.heap.size + 1 + 1 + 1 + 1, k * 3, none⟩ = some (.int .i64 ((tabR n).getD k 0)) ∧ (((((S.alloc (.cells #[.int .i64 0] 3)).alloc (.cells #[.int .i64 1, .int .i64 3] 3)).alloc (.cells #[.int .i64 (100 + n)] 3)).alloc (.cells #[.int .i64 0, .int .i64 0, .int .i64 0, .int .i64 0, .int .i64 0, .int .i64 0, .int .i64 0, .int .i64 0, .int .i64 0, .int .i64 0, .int .i64 0, .int .i64 0, .int .i64 0] 3)).alloc (.cells #[.int .i64 0, .slice none 0 0, .int .i64 1, .int .i64 3, .slice none 0 0, .int .i64 1, .int .i64 (-n), .slice none 0 0, .int .i64 1, .int .i64 (100 + n), .slice none 0 0, .int .i64 1, .int .i64 100, .slice (some ⟨S.heap.size, 0, none⟩) 1 1, .int .i64 1, .int .i64 100, .slice (some ⟨S.heap.size + 1, 0, none⟩) 2 2, .int .i64 1, .int .i64 100, .slice (some ⟨S.heap.size + 1 + 1, 0, none⟩) 1 1, .int .i64 1, .int .i64 100, .slice (some ⟨S.heap.size + 1 + 1 + 1, 0, none⟩) 13 13, .int .i64 1, .int .i64 100, .slice none 0 0, .int .i64 (-n), .int .i64 100, .slice none 0 0, .int .i64 (200 + n)] 42)).cell? ⟨S.heap.size + 1 + 1 + 1 + 1, k * 3 + 1, none⟩ = some (.slice a ((tabW n).getD k []).length c) ∧ (((((S.alloc (.cells #[.int .i64 0] 3)).alloc (.cells #[.int .i64 1, .int .i64 3] 3)).alloc (.cells #[.int .i64 (100 + n)] 3)).alloc (.cells #[.int .i64 0, .int .i64 0, .int .i64 0, .int .i64 0, .int .i64 0, .int .i64 0, .int .i64 0, .int .i64 0, .int .i64 0, .int .i64 0, .int .i64 0, .int .i64 0, .int .i64 0] 3)).alloc (.cells #[.int .i64 0, .slice none 0 0, .int .i64 1, .int .i64 3, .slice none 0 0, .int .i64 1, .int .i64 (-n), .slice none 0 0, .int .i64 1, .int .i64 (100 + n), .slice none 0 0, .int .i64 1, .int .i64 100, .slice (some ⟨S.heap.size, 0, none⟩) 1 1, .int .i64 1, .int .i64 100, .slice (some ⟨S.heap.size + 1, 0, none⟩) 2 2, .int .i64 1, .int .i64 100, .slice (some ⟨S.heap.size + 1 + 1, 0, none⟩) 1 1, .int .i64 1, .int .i64 100, .slice (some ⟨S.heap.size + 1 + 1 + 1, 0, none⟩) 13 13, .int .i64 1, .int .i64 100, .slice none 0 0, .int .i64 (-n), .int .i64 100, .slice none 0 0, .int .i64 (200 + n)] 42)).cell? ⟨S.heap.size + 1 + 1 + 1 + 1, k * 3 + 2, none⟩ = some (.int .i64 ((tabM n).getD k 0)) ∧ Cells (((((S.alloc (.cells #[.int .i64 0] 3)).alloc (.cells #[.int .i64 1, .int .i64 3] 3)).alloc (.cells #[.int .i64 (100 + n)] 3)).alloc (.cells #[.int .i64 0, .int .i64 0, .int .i64 0, .int .i64 0, .int .i64 0, .int .i64 0, .int .i64 0, .int .i64 0, .int .i64 0, .int .i64 0, .int .i64 0, .int .i64 0, .int .i64 0] 3)).alloc (.cells #[.int .i64 0, .slice none 0 0, .int .i64 1, .int .i64 3, .slice none 0 0, .int .i64 1, .int .i64 (-n), .slice none 0 0, .int .i64 1, .int .i64 (100 + n), .slice none 0 0, .int .i64 1, .int .i64 100, .slice (some ⟨S.heap.size, 0, none⟩) 1 1, .int .i64 1, .int .i64 100, .slice (some ⟨S.heap.size + 1, 0, none⟩) 2 2, .int .i64 1, .int .i64 100, .slice (some ⟨S.heap.size + 1 + 1, 0, none⟩) 1 1, .int .i64 1, .int .i64 100, .slice (some ⟨S.heap.size + 1 + 1 + 1, 0, none⟩) 13 13, .int .i64 1, .int .i64 100, .slice none 0 0, .int .i64 (-n), .int .i64 100, .slice none 0 0, .int .i64 (200 + n)] 42)) a (nums ((tabW n).getD k [])) := by
  obtain ⟨h0, h1, h2, h3, h4, _⟩ := five_at S (.cells #[.int .i64 0] 3) (.cells #[.int .i64 1, .int .i64 3] 3) (.cells #[.int .i64 (100 + n)] 3) (.cells #[.int .i64 0, .int .i64 0, .int .i64 0, .int .i64 0, .int .i64 0, .int .i64 0, .int .i64 0, .int .i64 0, .int .i64 0, .int .i64 0, .int .i64 0, .int .i64 0, .int .i64 0] 3) (.cells #[.int .i64 0, .slice none 0 0, .int .i64 1, .int .i64 3, .slice none 0 0, .int .i64 1, .int .i64 (-n), .slice none 0 0, .int .i64 1, .int .i64 (100 + n), .slice none 0 0, .int .i64 1, .int .i64 100, .slice (some ⟨S.heap.size, 0, none⟩) 1 1, .int .i64 1, .int .i64 100, .slice (some ⟨S.heap.size + 1, 0, none⟩) 2 2, .int .i64 1, .int .i64 100, .slice (some ⟨S.heap.size + 1 + 1, 0, none⟩) 1 1, .int .i64 1, .int .i64 100, .slice (some ⟨S.heap.size + 1 + 1 + 1, 0, none⟩) 13 13, .int .i64 1, .int .i64 100, .slice none 0 0, .int .i64 (-n), .int .i64 100, .slice none 0 0, .int .i64 (200 + n)] 42)
  generalize (((((S.alloc (.cells #[.int .i64 0] 3)).alloc (.cells #[.int .i64 1, .int .i64 3] 3)).alloc (.cells #[.int .i64 (100 + n)] 3)).alloc (.cells #[.int .i64 0, .int .i64 0, .int .i64 0, .int .i64 0, .int .i64 0, .int .i64 0, .int .i64 0, .int .i64 0, .int .i64 0, .int .i64 0, .int .i64 0, .int .i64 0, .int .i64 0] 3)).alloc (.cells #[.int .i64 0, .slice none 0 0, .int .i64 1, .int .i64 3, .slice none 0 0, .int .i64 1, .int .i64 (-n), .slice none 0 0, .int .i64 1, .int .i64 (100 + n), .slice none 0 0, .int .i64 1, .int .i64 100, .slice (some ⟨S.heap.size, 0, none⟩) 1 1, .int .i64 1, .int .i64 100, .slice (some ⟨S.heap.size + 1, 0, none⟩) 2 2, .int .i64 1, .int .i64 100, .slice (some ⟨S.heap.size + 1 + 1, 0, none⟩) 1 1, .int .i64 1, .int .i64 100, .slice (some ⟨S.heap.size + 1 + 1 + 1, 0, none⟩) 13 13, .int .i64 1, .int .i64 100, .slice none 0 0, .int .i64 (-n), .int .i64 100, .slice none 0 0, .int .i64 (200 + n)] 42)) = W at *
  intro k hk
  rcases (show k = 0 ∨ k = 1 ∨ k = 2 ∨ k = 3 ∨ k = 4 ∨ k = 5 ∨ k = 6 ∨ k = 7 ∨ k = 8 ∨ k = 9 by omega) with rfl | rfl | rfl | rfl | rfl | rfl | rfl | rfl | rfl | rfl
  · exact ⟨_, _, (blk_cell (i := 0) h4 rfl).1, (blk_cell (i := 1) h4 rfl).1, (blk_cell (i := 2) h4 rfl).1, .inl rfl⟩
  · exact ⟨_, _, (blk_cell (i := 3) h4 rfl).1, (blk_cell (i := 4) h4 rfl).1, (blk_cell (i := 5) h4 rfl).1, .inl rfl⟩
  · exact ⟨_, _, (blk_cell (i := 6) h4 rfl).1, (blk_cell (i := 7) h4 rfl).1, (blk_cell (i := 8) h4 rfl).1, .inl rfl⟩
  · exact ⟨_, _, (blk_cell (i := 9) h4 rfl).1, (blk_cell (i := 10) h4 rfl).1, (blk_cell (i := 11) h4 rfl).1, .inl rfl⟩
  · exact ⟨_, _, (blk_cell (i := 12) h4 rfl).1, (blk_cell (i := 13) h4 rfl).1, (blk_cell (i := 14) h4 rfl).1, cells_of h0 rfl⟩
  · exact ⟨_, _, (blk_cell (i := 15) h4 rfl).1, (blk_cell (i := 16) h4 rfl).1, (blk_cell (i := 17) h4 rfl).1, cells_of h1 rfl⟩
  · exact ⟨_, _, (blk_cell (i := 18) h4 rfl).1, (blk_cell (i := 19) h4 rfl).1, (blk_cell (i := 20) h4 rfl).1, cells_of h2 rfl⟩
  · exact ⟨_, _, (blk_cell (i := 21) h4 rfl).1, (blk_cell (i := 22) h4 rfl).1, (blk_cell (i := 23) h4 rfl).1, cells_of h3 rfl⟩
  · exact ⟨_, _, (blk_cell (i := 24) h4 rfl).1, (blk_cell (i := 25) h4 rfl).1, (blk_cell (i := 26) h4 rfl).1, .inl rfl⟩
  · exact ⟨_, _, (blk_cell (i := 27) h4 rfl).1, (blk_cell (i := 28) h4 rfl).1, (blk_cell (i := 29) h4 rfl).1, .inl rfl⟩
theorem tab_wide (n : Int) (h1 : 1 ≤ n) (h2 : n ≤ 50) : ∀ k, k < 10 → wideI ((tabR n).getD k 0) ∧ ((tabW n).getD k []).length ≤ 13 ∧ (∀ s ∈ (tabW n).getD k [], wideI s) ∧ wideI ((tabM n).getD k 0) := by
  intro k hk
  rcases (show k = 0 ∨ k = 1 ∨ k = 2 ∨ k = 3 ∨ k = 4 ∨ k = 5 ∨ k = 6 ∨ k = 7 ∨ k = 8 ∨ k = 9 by omega) with rfl | rfl | rfl | rfl | rfl | rfl | rfl | rfl | rfl | rfl
  all_goals
    simp only [tabR, tabW, tabM, List.getD_cons_zero, List.getD_cons_succ, wideI]
    refine ⟨by omega, by simp, ?_, by omega⟩
    intro s hs
    first
      | (cases hs; done)
      | (simp only [List.mem_cons, List.not_mem_nil, or_false] at hs; omega)
      | (have := (List.mem_replicate.1 hs).2; omega)
theorem make13 (W : World) : (Instr.makeSlice 30 (.int .i64 13) (.int .i64 13)).run Try.prog W = .ok (.slice (some ⟨W.heap.size, 0, none⟩) 13 13) (W.alloc (.cells #[.int .i64 0, .int .i64 0, .int .i64 0, .int .i64 0, .int .i64 0, .int .i64 0, .int .i64 0, .int .i64 0, .int .i64 0, .int .i64 0, .int .i64 0, .int .i64 0, .int .i64 0] 3)) := by kernel_rfl
theorem eall : all ge9.prods [1] (wholeJ [1] 1) = [[.mk 1 (-1) []]] := by
  unfold wholeJ
  rw [all_goal _ _ (okD_of (ask_is ge9_check (root := 1) (u := [1]) (m := 5) (by decide) (by decide) (by decide) (by decide))).six (fit_whole [1] 1), if_neg (by decide), if_pos (by decide)]
theorem e9b : num 0 ge9.prods [2] (wholeJ [2] 100) = 0 := by decide +kernel
theorem e9c : num 1 ge9.prods [2] (wholeJ [2] 100) = 1 := by decide +kernel
theorem one_tree {g : Gr} {u : List Int} {M : Nat} {w w' : World} {e : Ending} {tr : Tr} {root : Int} (hA : AskP g root u M) (hl : (all g.prods u (wholeJ u root)).take M = [[tr]]) (h : TreesEnd g root u M w e w') :
    ∃ (b o c : Nat) (t : Tl), e = .returned (.tuple #[.slice (some ⟨b, o, none⟩) 1 c, .int .i64 0]) ∧ t.plain = tr ∧ Lies (fun b => w.heap.size ≤ b) w' t ∧ b < w'.heap.size ∧ w'.cell? ⟨b, o, none⟩ = some (.int .i64 t.sym) ∧ w'.cell? ⟨b, o + 1, none⟩ = some (.int .i64 t.prod) ∧ w'.cell? ⟨b, o + 2, none⟩ = some (.slice t.a t.kids.length t.c) := by
  unfold TreesEnd at h
  rw [if_pos (askB_true hA)] at h
  obtain ⟨a, c, ts, he, ho, hk, hp⟩ := h
  rw [Int.toNat_natCast, hl] at hp
  match ts, hp with
  | [t], hp =>
    have hpt : t.plain = tr := by simpa using hp
    obtain ⟨b, o, rfl, hb, hc⟩ := (own_cells ho).1.get (by simp [tls, tl3])
    have h0 := hc 0 _ rfl
    rw [Nat.add_zero] at h0
    exact ⟨b, o, c, t, he, hpt, hk t List.mem_cons_self, hb, h0, hc 1 _ rfl, hc 2 _ rfl⟩
set_option maxRecDepth 100000 in
set_option maxHeartbeats 8000000 in
theorem deriveErrors_walk (z : Int) (hz : wideI z) (w : World) : Calls Try.prog 4 #[.int .i64 z] w fun e w' => e = .returned (.bool true) ∧ Below w.heap.size w w' := by
  have HGO := Lib.hid ((good_any 1 w).mono fun e w' ⟨hb, ts, ns, ls, at_, an, ap, ct, cn, cp, he, hr, hp⟩ => (by
    rw [ge9_parse] at hp
    have hg : ge9 = ⟨ts, ns, ls.map Lay.plain⟩ := End.ok.inj hp
    exact ⟨hb, at_, an, ap, _, _, _, ct, cn, cp, he, by rw [hg]; exact hr.gram⟩ : Below w.heap.size w w' ∧ ∃ (at_ an ap : Option Addr) (n1 n2 n3 ct cn cp : Nat), e = Ending.returned (.agg #[.slice at_ n1 ct, .slice an n2 cn, .slice ap n3 cp]) ∧ GramAt w' (.agg #[.slice at_ n1 ct, .slice an n2 cn, .slice ap n3 cp]) ge9))
  obtain ⟨d, hd, hdl⟩ : ∃ d : Nat, z % 50 = d ∧ d < 50 := ⟨(z % 50).toNat, by omega, by omega⟩
  have HWI := Lib.hid fun W => (within_any z 50 (by omega) (by omega) W).mono fun e w' h => (⟨h.1.trans (by rw [hd]), h.2⟩ : e = Ending.returned (.int .i64 d) ∧ w' = W)
  obtain ⟨n, hn⟩ : ∃ n : Nat, 1 + d = n := ⟨_, rfl⟩
  have hn1 : 1 ≤ n := by omega
  have hn50 : n ≤ 50 := by omega
  have hs1 : (1 : Int) + (d : Int) = (n : Int) := by omega
  have hw1 : IntKind.i64.wrap ((1 : Int) + (d : Int)) = (n : Int) := by rw [hs1]; exact IntWalk.i64_in _ (by omega)
  have hw2 : IntKind.i64.wrap (-(n : Int)) = -(n : Int) := IntWalk.i64_in _ (by omega)
  have hw3 : IntKind.i64.wrap (100 + (n : Int)) = 100 + (n : Int) := IntWalk.i64_in _ (by omega)
  have hw4 : IntKind.i64.wrap (200 + (n : Int)) = 200 + (n : Int) := IntWalk.i64_in _ (by omega)
  have hmk := make13
  clear hd hdl hn hs1
  go_enter Try.func4, Try.ntmps4
  go_upto_region 2 with (go_at_call 17; refine HGO.out.mono ?_; rintro e w2 ⟨hb2, at_, an, ap, n1, n2, n3, ct, cn, cp, rfl, hg2⟩)
  have hbA := box_belowT w2 (.cells #[.slice at_ n1 ct, .slice an n2 cn, .slice ap n3 cp] 25)
  have HQ := Lib.hid (heap_alloc_new w2 (.cells #[.slice at_ n1 ct, .slice an n2 cn, .slice ap n3 cp] 25))
  have HG := Lib.hid (hg2.below hbA)
  have HB := Lib.hid (hb2.trans (hbA.mono hb2.size))
  clear hb2 hg2 HGO hbA
  generalize w2.alloc (.cells #[.slice at_ n1 ct, .slice an n2 cn, .slice ap n3 cp] 25) = S at *
  generalize w2.heap.size = B at *
  go_upto_region 4 with (go_at_call 11; (with_reducible refine (HWI.out _).mono ?_); rintro e w9 ⟨rfl, hw9⟩; rw [hw9]; clear hw9)
  have HTA := Lib.hid (tab_at S n)
  have hb5 := (five_at S (.cells #[.int .i64 0] 3) (.cells #[.int .i64 1, .int .i64 3] 3) (.cells #[.int .i64 (100 + (n : Int))] 3) (.cells #[.int .i64 0, .int .i64 0, .int .i64 0, .int .i64 0, .int .i64 0, .int .i64 0, .int .i64 0, .int .i64 0, .int .i64 0, .int .i64 0, .int .i64 0, .int .i64 0, .int .i64 0] 3) (.cells #[.int .i64 0, .slice none 0 0, .int .i64 1, .int .i64 3, .slice none 0 0, .int .i64 1, .int .i64 (-(n : Int)), .slice none 0 0, .int .i64 1, .int .i64 (100 + (n : Int)), .slice none 0 0, .int .i64 1, .int .i64 100, .slice (some ⟨S.heap.size, 0, none⟩) 1 1, .int .i64 1, .int .i64 100, .slice (some ⟨S.heap.size + 1, 0, none⟩) 2 2, .int .i64 1, .int .i64 100, .slice (some ⟨S.heap.size + 1 + 1, 0, none⟩) 1 1, .int .i64 1, .int .i64 100, .slice (some ⟨S.heap.size + 1 + 1 + 1, 0, none⟩) 13 13, .int .i64 1, .int .i64 100, .slice none 0 0, .int .i64 (-(n : Int)), .int .i64 100, .slice none 0 0, .int .i64 (200 + (n : Int))] 42)).2.2.2.2
  have HQT := Lib.hid hb5.1
  have HG5 := Lib.hid (HG.out.below hb5.2)
  have HB5 := Lib.hid (HB.out.trans (hb5.2.mono HB.out.size))
  have HQ5 := Lib.hid ((hb5.2.block _ (heap_lt HQ.out)).trans HQ.out)
  clear hb5 HG HB HQ hmk
  generalize (((((S.alloc (.cells #[.int .i64 0] 3)).alloc (.cells #[.int .i64 1, .int .i64 3] 3)).alloc (.cells #[.int .i64 (100 + (n : Int))] 3)).alloc (.cells #[.int .i64 0, .int .i64 0, .int .i64 0, .int .i64 0, .int .i64 0, .int .i64 0, .int .i64 0, .int .i64 0, .int .i64 0, .int .i64 0, .int .i64 0, .int .i64 0, .int .i64 0] 3)).alloc (.cells #[.int .i64 0, .slice none 0 0, .int .i64 1, .int .i64 3, .slice none 0 0, .int .i64 1, .int .i64 (-(n : Int)), .slice none 0 0, .int .i64 1, .int .i64 (100 + (n : Int)), .slice none 0 0, .int .i64 1, .int .i64 100, .slice (some ⟨S.heap.size, 0, none⟩) 1 1, .int .i64 1, .int .i64 100, .slice (some ⟨S.heap.size + 1, 0, none⟩) 2 2, .int .i64 1, .int .i64 100, .slice (some ⟨S.heap.size + 1 + 1, 0, none⟩) 1 1, .int .i64 1, .int .i64 100, .slice (some ⟨S.heap.size + 1 + 1 + 1, 0, none⟩) 13 13, .int .i64 1, .int .i64 100, .slice none 0 0, .int .i64 (-(n : Int)), .int .i64 100, .slice none 0 0, .int .i64 (200 + (n : Int))] 42)) = S5 at *
  have HLT := Lib.hid (heap_lt HQT.out)
  generalize S.heap.size + 1 + 1 + 1 + 1 = TX at *
  clear HQT
  have HTN := Lib.hid (tab_no n (by omega) (by omega))
  have HTW := Lib.hid (tab_wide n (by omega) (by omega))
  go_loopw [42] (fun iv wr => ∃ k : Nat, iv = .int .i64 k ∧ k ≤ 10 ∧ Hid (Below S5.heap.size S5 wr)) (fun iv _ => 10 - (intOf iv).toNat)
  case atStart => exact ⟨0, rfl, by omega, Lib.hid (Below.refl _ _)⟩
  case round =>
    obtain ⟨k, rfl, hk, HBR⟩ := hrel
    have q0 := (HBR.out.block B (heap_lt HQ5.out)).trans HQ5.out
    have d0 := (blk_cell (i := 0) q0 rfl).1
    have d1 := (blk_cell (i := 1) q0 rfl).1
    have d2 := (blk_cell (i := 2) q0 rfl).1
    have lg := heap_lt q0
    have HGR := Lib.hid (HG5.out.below HBR.out)
    have HBW := Lib.hid (HB5.out.trans (HBR.out.mono HB5.out.size))
    by_cases hkl : k < 10
    · have e1 : (k : Int) < 10 := by omega
      obtain ⟨a, c, x0, x1, x2, hcl⟩ := HTA.out k hkl
      replace x0 := (HBR.out.cell (p := ⟨TX, k * 3, none⟩) HLT.out).trans x0
      replace x1 := (HBR.out.cell (p := ⟨TX, k * 3 + 1, none⟩) HLT.out).trans x1
      replace x2 := (HBR.out.cell (p := ⟨TX, k * 3 + 2, none⟩) HLT.out).trans x2
      have ltx : TX < wr.heap.size := Nat.lt_of_lt_of_le HLT.out HBR.out.size
      obtain ⟨w1, w2', w3, w4⟩ := HTW.out k hkl
      have hno := HTN.out k hkl
      have HCL := Lib.hid (hcl.below HBR.out)
      generalize (tabR (n : Int)).getD k 0 = root at *
      generalize (tabW (n : Int)).getD k [] = word at *
      generalize (tabM (n : Int)).getD k 0 = most at *
      have hbx := box_belowT wr (.cells #[.int .i64 root, .slice a word.length c, .int .i64 most] 42)
      have HQX := Lib.hid (heap_alloc_new wr (.cells #[.int .i64 root, .slice a word.length c, .int .i64 most] 42))
      have HTC := Lib.hid fun W (hW : GramAt W (.agg #[.slice at_ n1 ct, .slice an n2 cn, .slice ap n3 cp]) ge9) (hU : Cells W a (nums word)) => (trees_calls _ ge9 root a c word most W hW (check_tiny ge9_check).mid w1 hU (by omega) w3).mono fun e w' h => (⟨by have := h.1; unfold TreesEnd at this; rwa [askB_false hno, if_neg (by simp)] at this, h.2⟩ : e = .returned (.tuple #[.slice none 0 0, .int .i64 1]) ∧ Below W.heap.size W w')
      have HCC := Lib.hid fun W (hW : GramAt W (.agg #[.slice at_ n1 ct, .slice an n2 cn, .slice ap n3 cp]) ge9) (hU : Cells W a (nums word)) => (count_any _ ge9 root a c word most W hW (check_tiny ge9_check).mid w1 hU (by omega) w3).mono fun e w' h => (⟨by rw [h.1]; unfold cntI; rw [askB_false hno, if_neg (by simp)], h.2⟩ : e = .returned (.int .i64 0) ∧ Below W.heap.size W w')
      have HKL := Lib.hid hkl
      have HGX := Lib.hid (HGR.out.below hbx)
      have HCX := Lib.hid (HCL.out.below hbx)
      have HBX := Lib.hid (HBR.out.trans (hbx.mono HBR.out.size))
      have HQB := Lib.hid ((hbx.block _ lg).trans q0)
      clear hno w1 w2' w3 w4 hcl hkl q0 hbx
      go_upto_region 6 with fail
      generalize wr.alloc (.cells #[.int .i64 root, .slice a word.length c, .int .i64 most] 42) = W6 at *
      generalize wr.heap.size = XB at *
      clear x0 x1 x2 d0 d1 d2 lg ltx
      have d0 := (blk_cell (i := 0) HQB.out rfl).1
      have d1 := (blk_cell (i := 1) HQB.out rfl).1
      have d2 := (blk_cell (i := 2) HQB.out rfl).1
      have lg := heap_lt HQB.out
      have x0 := (blk_cell (i := 0) HQX.out rfl).1
      have x1 := (blk_cell (i := 1) HQX.out rfl).1
      have x2 := (blk_cell (i := 2) HQX.out rfl).1
      have lx := heap_lt HQX.out
      go_upto_region 7 with (go_at_call 14; (with_reducible refine (HTC.out _ HGX.out HCX.out).mono ?_); rintro e w7 ⟨rfl, hb7⟩)
      have HQB7 := Lib.hid ((hb7.block _ lg).trans HQB.out)
      have HQX7 := Lib.hid ((hb7.block _ lx).trans HQX.out)
      have HG7 := Lib.hid (HGX.out.below hb7)
      have HC7 := Lib.hid (HCX.out.below hb7)
      have HB7 := Lib.hid (HBX.out.trans (hb7.mono HBX.out.size))
      clear x0 x1 x2 d0 d1 d2 lg lx hb7
      have d0 := (blk_cell (i := 0) HQB7.out rfl).1
      have d1 := (blk_cell (i := 1) HQB7.out rfl).1
      have d2 := (blk_cell (i := 2) HQB7.out rfl).1
      have lg := heap_lt HQB7.out
      have x0 := (blk_cell (i := 0) HQX7.out rfl).1
      have x1 := (blk_cell (i := 1) HQX7.out rfl).1
      have x2 := (blk_cell (i := 2) HQX7.out rfl).1
      have lx := heap_lt HQX7.out
      go_wp2_with (go_at_call 12; (with_reducible refine (HCC.out _ HG7.out HC7.out).mono ?_); rintro e w8 ⟨rfl, hb8⟩; have HB8 := Lib.hid (HB7.out.trans (hb8.mono HB7.out.size)))
      exact ⟨⟨k + 1, by go_num, by have := HKL.out; omega, HB8⟩, by have := HKL.out; simp [intOf]; omega⟩
    · have e1 : ¬ (k : Int) < 10 := by omega
      clear hkl
      have HT1 := Lib.hid (show ∀ (a : Option Addr) W, GramAt W (.agg #[.slice at_ n1 ct, .slice an n2 cn, .slice ap n3 cp]) ge9 → Cells W a (nums [1]) → Calls Try.prog 14 #[.agg #[.slice at_ n1 ct, .slice an n2 cn, .slice ap n3 cp], .int .i64 1, .slice a 1 1, .int .i64 5] W fun e w' => Below W.heap.size W w' ∧ ∃ (b o c : Nat), e = .returned (.tuple #[.slice (some ⟨b, o, none⟩) 1 c, .int .i64 0]) ∧ b < w'.heap.size ∧ w'.cell? ⟨b, o + 1, none⟩ = some (.int .i64 (-1)) from fun a W hW hU => (trees_calls _ ge9 1 a 1 [1] 5 W hW (check_tiny ge9_check).mid ⟨by decide, by decide⟩ hU (by decide) (fun s hs => by rw [List.mem_singleton.1 hs]; exact ⟨by decide, by decide⟩)).mono fun e w' h => by
        obtain ⟨b, o, c, t, h1, h2, _, h3, _, h4, _⟩ := one_tree (M := 5) (tr := .mk 1 (-1) []) (ask_is ge9_check (by decide) (by decide) (by decide) (by decide)) (by rw [eall]; rfl) h.1
        have h5 : t.prod = -1 := by rw [← Tl.plain_prod, h2]; rfl
        exact ⟨h.2, b, o, c, h1, h3, by rw [h4, h5]⟩)
      have HT2 := Lib.hid (show ∀ W, Calls Try.prog 14 #[.agg #[.slice none 0 0, .slice none 0 0, .slice none 0 0], .int .i64 100, .slice none 0 0, .int .i64 5] W fun e w' => e = .returned (.tuple #[.slice none 0 0, .int .i64 1]) ∧ Below W.heap.size W w' from fun W => (trees_calls _ gz9 100 none 0 [] 5 W (gz9_at W) gz9_mid ⟨by decide, by decide⟩ (.inl rfl) (by decide) (fun s hs => by cases hs)).mono fun e w' h => ⟨by have h1 := h.1; unfold TreesEnd at h1; rwa [askB_false (fun h => gz9_no h.1), if_neg (by simp)] at h1, h.2⟩)
      have HC1 := Lib.hid (show ∀ (a : Option Addr) W, GramAt W (.agg #[.slice at_ n1 ct, .slice an n2 cn, .slice ap n3 cp]) ge9 → Cells W a (nums [2]) → Calls Try.prog 12 #[.agg #[.slice at_ n1 ct, .slice an n2 cn, .slice ap n3 cp], .int .i64 100, .slice a 1 1, .int .i64 0] W fun e w' => e = .returned (.int .i64 0) ∧ Below W.heap.size W w' from fun a W hg hu => count_at ge9_check (M := 0) (c := 1) hg hu rfl (ask_is ge9_check (by decide) (by decide) (by decide) (by decide)) e9b)
      have HC2 := Lib.hid (show ∀ (a : Option Addr) W, GramAt W (.agg #[.slice at_ n1 ct, .slice an n2 cn, .slice ap n3 cp]) ge9 → Cells W a (nums [2]) → Calls Try.prog 13 #[.agg #[.slice at_ n1 ct, .slice an n2 cn, .slice ap n3 cp], .int .i64 100, .slice a 1 1] W fun e w' => e = .returned (.bool true) ∧ Below W.heap.size W w' from fun a W hg hu => can_at ge9_check (c := 1) hg hu rfl (ask_is ge9_check (by decide) (by decide) (by decide) (by decide)) e9c)
      have HWK := Lib.hid wakes9_any
      have HQ0 := Lib.hid q0
      clear q0
      go_upto_region 11 with (go_at_call 14; (with_reducible refine (HT1.out (some ⟨wr.heap.size, 0, none⟩) (wr.alloc (.cells #[.int .i64 1] 3)) (HGR.out.below (box_belowT wr _)) (cells_new wr _ _)).mono ?_); rintro e w3 ⟨hb3, tb, to_, tc, rfl, htb, htc⟩)
      have HB3 := Lib.hid ((box_belowT wr (.cells #[.int .i64 1] 3)).trans (hb3.mono (box_belowT wr _).size))
      have HQ3 := Lib.hid ((HB3.out.block _ lg).trans HQ0.out)
      have HG3 := Lib.hid (HGR.out.below HB3.out)
      clear d0 d1 d2 lg hb3
      go_upto_region 12 with (go_at_call 14; (with_reducible refine (HT2.out _).mono ?_); rintro e w4 ⟨rfl, hb4⟩)
      have htc4 := (hb4.cell (p := ⟨tb, to_ + 1, none⟩) htb).trans htc
      have htb4 : tb < w4.heap.size := Nat.lt_of_lt_of_le htb hb4.size
      have HQ4 := Lib.hid ((hb4.block _ (heap_lt HQ3.out)).trans HQ3.out)
      have HG4 := Lib.hid (HG3.out.below hb4)
      have HB4 := Lib.hid (HB3.out.trans (hb4.mono HB3.out.size))
      clear htb htc hb4
      have d0 := (blk_cell (i := 0) HQ4.out rfl).1
      have d1 := (blk_cell (i := 1) HQ4.out rfl).1
      have d2 := (blk_cell (i := 2) HQ4.out rfl).1
      have lg := heap_lt HQ4.out
      go_wp2_with (first
        | (go_at_call 12; (with_reducible refine (HC1.out (some ⟨w4.heap.size, 0, none⟩) (w4.alloc (.cells #[.int .i64 2] 3)) (HG4.out.below (box_belowT w4 _)) (cells_new w4 _ _)).mono ?_); rintro e w5 ⟨rfl, hb5⟩; have HB5' := Lib.hid ((box_belowT w4 (.cells #[.int .i64 2] 3)).trans (hb5.mono (box_belowT w4 _).size)); have HQ5' := Lib.hid ((HB5'.out.block _ lg).trans HQ4.out); have HG5' := Lib.hid (HG4.out.below HB5'.out); have y0 := (blk_cell (i := 0) HQ5'.out rfl).1; have y1 := (blk_cell (i := 1) HQ5'.out rfl).1; have y2 := (blk_cell (i := 2) HQ5'.out rfl).1; have ly := heap_lt HQ5'.out; clear hb5)
        | (go_at_call 13; (with_reducible refine (HC2.out (some ⟨w5.heap.size, 0, none⟩) (w5.alloc (.cells #[.int .i64 2] 3)) (HG5'.out.below (box_belowT w5 _)) (cells_new w5 _ _)).mono ?_); rintro e w6 ⟨rfl, hb6⟩; have HB6' := Lib.hid ((box_belowT w5 (.cells #[.int .i64 2] 3)).trans (hb6.mono (box_belowT w5 _).size)); clear hb6)
        | (go_at_call 16; (with_reducible refine (HWK.out _).mono ?_); rintro e w7 ⟨rfl, hb7⟩; have HB7' := Lib.hid hb7; clear hb7))
      go_ret
      exact ⟨rfl, HBW.out.trans ((HB4.out.trans ((HB5'.out.trans ((HB6'.out.trans (HB7'.out.mono HB6'.out.size)).mono HB5'.out.size)).mono HB4.out.size)).mono HBW.out.size)⟩
end Go.Proofs.Ytgfkkbpnphbdgaa
