/- wakes of chapter 5. -/
import Derived.Test.YtdnlbmdmaiacaaaReachT
namespace Go.Proofs.Ytdnlbmdmaiacaaa
open Go.RowKit
open Doc

def wg : Gr := ⟨[[97]], [[83]], [(100, [1, 100]), (100, [])]⟩
theorem wg_check : CheckG wg := (chk_iff wg).1 (by decide +kernel)
theorem wg_nul {r : Nat} (h : SetIs r (Nul wg)) : r = 1 := by
  refine h.uniq ⟨by decide, fun i => ?_⟩
  have hall : ∀ x, Nul wg x → x = 100 := fun x hx => by
    cases hx with
    | mk p hp _ =>
      simp only [wg, List.mem_cons, List.not_mem_nil, or_false] at hp
      rcases hp with rfl | rfl <;> rfl
  have h0 : Nul wg 100 := Nul.mk (100, []) (by simp [wg]) (by intro s hs; cases hs)
  rw [show (1 : Nat) = 2 ^ 0 from rfl, Nat.testBit_two_pow, decide_eq_true_eq]
  constructor
  · rintro rfl; exact ⟨by omega, h0⟩
  · rintro ⟨_, h1⟩; have := hall _ h1; omega

theorem cells_w {w : World} {b : Nat} {cs : Array Value} {T : TypeId} (h : w.heap[b]? = some (.cells cs T)) : Cells w (some ⟨b, 0, none⟩) cs.toList := by
  refine .inr ⟨b, 0, rfl, heap_lt h, fun j u hj => ?_⟩
  rw [Nat.zero_add]
  exact (blk_cell h (by simpa using hj)).1

set_option maxHeartbeats 1000000 in
theorem wakes5_any (w : World) : Calls Try.prog 37 #[] w fun e w' => e = .returned (.bool true) ∧ Below w.heap.size w w' := by
  obtain ⟨W4, hW4⟩ : ∃ W, W = ((((w.alloc (.cells #[.string ⟨#[97]⟩] 9)).alloc (.cells #[.string ⟨#[83]⟩] 9)).alloc (.cells #[.int .i64 1, .int .i64 100] 3)).alloc (.cells #[.int .i64 100, .slice (some ⟨w.heap.size + 1 + 1, 0, none⟩) 2 2, .int .i64 100, .slice none 0 0] 37)) := ⟨_, rfl⟩
  obtain ⟨f4, fz, f0, f1, f2, f3⟩ := four w (.cells #[.string ⟨#[97]⟩] 9) (.cells #[.string ⟨#[83]⟩] 9) (.cells #[.int .i64 1, .int .i64 100] 3) (.cells #[.int .i64 100, .slice (some ⟨w.heap.size + 1 + 1, 0, none⟩) 2 2, .int .i64 100, .slice none 0 0] 37)
  rw [← hW4] at f4 fz f0 f1 f2 f3
  have hG : GramAt W4 (.agg #[.slice (some ⟨w.heap.size, 0, none⟩) 1 1, .slice (some ⟨w.heap.size + 1, 0, none⟩) 1 1, .slice (some ⟨w.heap.size + 1 + 1 + 1, 0, none⟩) 2 2]) wg :=
    ⟨_, _, _, 1, 1, 2, [⟨100, [1, 100], some ⟨w.heap.size + 1 + 1, 0, none⟩, 2⟩, ⟨100, [], none, 0⟩], rfl, rfl, cells_w f0, cells_w f1, cells_w f3, (by
      intro p hp
      simp only [List.mem_cons, List.not_mem_nil, or_false] at hp
      rcases hp with rfl | rfl
      · exact cells_w f2
      · exact .inl rfl), Nat.le_refl _, Nat.le_refl _, Nat.le_refl _⟩
  have HN := Lib.hid (hW4 ▸ nullable_any _ wg W4 hG wg_check)
  have HOF := Lib.hid fun W => (set_of (some ⟨W.heap.size, 0, none⟩) 1 [0] (W.alloc (.cells #[.int .i64 0] 3)) (cells_new W #[.int .i64 0] 3) (by decide)).mono fun e w' ⟨he, hw⟩ => (⟨he.trans (by rw [ofL_one']; rfl), hw⟩ : e = Ending.returned (.int .u64 1) ∧ w' = W.alloc (.cells #[.int .i64 0] 3))
  have HF4 := Lib.hid (hW4 ▸ f4)
  clear hG f4 fz f0 f1 f2 f3 hW4 W4
  go_enter Try.func37, Try.ntmps37
  go_wp2_with (first
    | (go_at_call 32; refine HN.out.mono ?_; rintro e w2 ⟨⟨r, rfl, hr⟩, hb2⟩; have hr1 := wg_nul hr; subst hr1)
    | (go_at_call 33; refine (HOF.out _).mono ?_; rintro e w3 ⟨rfl, rfl⟩))
  go_ret
  exact ⟨rfl, (HF4.out.trans (hb2.mono HF4.out.size)).alloc (Nat.le_trans HF4.out.size hb2.size) _⟩

end Go.Proofs.Ytdnlbmdmaiacaaa
