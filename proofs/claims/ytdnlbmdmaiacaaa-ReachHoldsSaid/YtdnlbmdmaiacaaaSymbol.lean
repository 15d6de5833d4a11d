/- symbol: a name's number. -/
import Derived.Test.YtdnlbmdmaiacaaaAddNon
namespace Go.Proofs.Ytdnlbmdmaiacaaa
open Go.RowKit
open Doc

section
variable {b : Nat} {w : World} {ts ns : List (List UInt8)} {ls : List Lay} {at_ an ap : Option Addr} {ct cn cp : Nat}

theorem symbol_found (t : Tok) (s : Int) (h : Bld b w ts ns ls at_ an ap ct cn cp) (hts : ts.length ≤ 1000000) (hns : ns.length ≤ 1000000) (hf : findG ⟨ts, ns, ls.map Lay.plain⟩ t.text = (s, true)) :
    Calls Try.prog 121 #[.pointer (some ⟨b, 0, none⟩), tokV t] w fun e w' => e = .returned (.int .i64 s) ∧ Below w.heap.size w w' := by
  have hS : Below w.heap.size w (w.alloc (.cells #[.int .i64 t.kind, .string ⟨t.text.toArray⟩, .int .i64 t.line, .int .i64 t.col] 124)) := (Below.refl _ _).alloc (Nat.le_refl _) _
  have h' := h.alloc (.cells #[.int .i64 t.kind, .string ⟨t.text.toArray⟩, .int .i64 t.line, .int .i64 t.col] 124)
  obtain ⟨b0, b1, b2⟩ := h'.cell
  have hbw := h'.lt
  have hblt := h.lt
  have k0 : (w.alloc (.cells #[.int .i64 t.kind, .string ⟨t.text.toArray⟩, .int .i64 t.line, .int .i64 t.col] 124)).cell? ⟨w.heap.size, 0, none⟩ = some (.int .i64 t.kind) := by go_simp
  have k1 : (w.alloc (.cells #[.int .i64 t.kind, .string ⟨t.text.toArray⟩, .int .i64 t.line, .int .i64 t.col] 124)).cell? ⟨w.heap.size, 1, none⟩ = some (.string ⟨t.text.toArray⟩) := by go_simp
  have k2 : (w.alloc (.cells #[.int .i64 t.kind, .string ⟨t.text.toArray⟩, .int .i64 t.line, .int .i64 t.col] 124)).cell? ⟨w.heap.size, 2, none⟩ = some (.int .i64 t.line) := by go_simp
  have k3 : (w.alloc (.cells #[.int .i64 t.kind, .string ⟨t.text.toArray⟩, .int .i64 t.line, .int .i64 t.col] 124)).cell? ⟨w.heap.size, 3, none⟩ = some (.int .i64 t.col) := by go_simp
  have hsz : (w.alloc (.cells #[.int .i64 t.kind, .string ⟨t.text.toArray⟩, .int .i64 t.line, .int .i64 t.col] 124)).heap.size = w.heap.size + 1 := by simp
  unfold tokV
  go_enter Try.func121, Try.ntmps121
  go_wp2
  generalize w.alloc (.cells #[.int .i64 t.kind, .string ⟨t.text.toArray⟩, .int .i64 t.line, .int .i64 t.col] 124) = S at *
  have HF0 := Lib.hid ((gfind_any _ ⟨ts, ns, ls.map Lay.plain⟩ t.text S.drew (h'.gram.below (Below.refl _ _).drew) hns hts).mono fun e w' he => (⟨he.1.trans (by rw [hf]), he.2⟩ : e = Ending.returned (.tuple #[.int .i64 s, .bool true]) ∧ Below S.drew.heap.size S.drew w'))
  clear hf
  go_region_with (go_at_call 28; with_reducible refine HF0.out.mono ?_
                  rintro e w2 ⟨rfl, hb2⟩)
  all_goals
    go_wp2
    go_ret
    exact ⟨rfl, hS.drew.trans (hb2.mono hS.size)⟩

theorem symbol_none (t : Tok) (h : Bld b w ts ns ls at_ an ap ct cn cp) (hts : ts.length ≤ 1000000) (hns : ns.length ≤ 1000000) (hk : t.kind = 1) (hf : findG ⟨ts, ns, ls.map Lay.plain⟩ t.text = (0, false)) :
    Calls Try.prog 121 #[.pointer (some ⟨b, 0, none⟩), tokV t] w fun e w' => e = .panicked [{ v := faultV t.line t.col 3, recovered := false }] ∧ Below w.heap.size w w' := by
  have hS : Below w.heap.size w (w.alloc (.cells #[.int .i64 t.kind, .string ⟨t.text.toArray⟩, .int .i64 t.line, .int .i64 t.col] 124)) := (Below.refl _ _).alloc (Nat.le_refl _) _
  have h' := h.alloc (.cells #[.int .i64 t.kind, .string ⟨t.text.toArray⟩, .int .i64 t.line, .int .i64 t.col] 124)
  obtain ⟨b0, b1, b2⟩ := h'.cell
  have hbw := h'.lt
  have hblt := h.lt
  have k0 : (w.alloc (.cells #[.int .i64 t.kind, .string ⟨t.text.toArray⟩, .int .i64 t.line, .int .i64 t.col] 124)).cell? ⟨w.heap.size, 0, none⟩ = some (.int .i64 t.kind) := by go_simp
  have k1 : (w.alloc (.cells #[.int .i64 t.kind, .string ⟨t.text.toArray⟩, .int .i64 t.line, .int .i64 t.col] 124)).cell? ⟨w.heap.size, 1, none⟩ = some (.string ⟨t.text.toArray⟩) := by go_simp
  have k2 : (w.alloc (.cells #[.int .i64 t.kind, .string ⟨t.text.toArray⟩, .int .i64 t.line, .int .i64 t.col] 124)).cell? ⟨w.heap.size, 2, none⟩ = some (.int .i64 t.line) := by go_simp
  have k3 : (w.alloc (.cells #[.int .i64 t.kind, .string ⟨t.text.toArray⟩, .int .i64 t.line, .int .i64 t.col] 124)).cell? ⟨w.heap.size, 3, none⟩ = some (.int .i64 t.col) := by go_simp
  have hsz : (w.alloc (.cells #[.int .i64 t.kind, .string ⟨t.text.toArray⟩, .int .i64 t.line, .int .i64 t.col] 124)).heap.size = w.heap.size + 1 := by simp
  have hk1 : ((t.kind : Int) == 1) = true := by simp [hk]
  clear hk
  unfold tokV
  go_enter Try.func121, Try.ntmps121
  go_wp2
  generalize w.alloc (.cells #[.int .i64 t.kind, .string ⟨t.text.toArray⟩, .int .i64 t.line, .int .i64 t.col] 124) = S at *
  have HF0 := Lib.hid ((gfind_any _ ⟨ts, ns, ls.map Lay.plain⟩ t.text S.drew (h'.gram.below (Below.refl _ _).drew) hns hts).mono fun e w' he => (⟨he.1.trans (by rw [hf]), he.2⟩ : e = Ending.returned (.tuple #[.int .i64 0, .bool false]) ∧ Below S.drew.heap.size S.drew w'))
  clear hf
  go_region_with (go_at_call 28; with_reducible refine HF0.out.mono ?_
                  rintro e w2 ⟨rfl, hb2⟩)
  all_goals
    have hb3 : Below S.heap.size S w2 := (Below.refl _ _).drew.trans hb2
    have h2 := h'.below hb3
    have hb4 : Below w.heap.size w w2 := hS.trans (hb3.mono hS.size)
    obtain ⟨d0, d1, d2⟩ := h2.cell
    have hlk : w.heap.size < S.heap.size := by omega
    have q0 := (hb3.cell (p := ⟨w.heap.size, 0, none⟩) hlk).trans k0
    have q1 := (hb3.cell (p := ⟨w.heap.size, 1, none⟩) hlk).trans k1
    have q2 := (hb3.cell (p := ⟨w.heap.size, 2, none⟩) hlk).trans k2
    have q3 := (hb3.cell (p := ⟨w.heap.size, 3, none⟩) hlk).trans k3
    have HZ := Lib.hid (show w.heap.size < w2.heap.size from Nat.lt_of_lt_of_le hlk hb3.size)
    have hlt2 : b < w2.heap.size := h2.lt
    clear hb2 hb3 b0 b1 b2 k0 k1 k2 k3 h' hS HF0 hsz hbw hlk
    go_wp2_with (go_at_call 111; refine (refuse_any t 3 _).mono ?_; rintro e w3 ⟨rfl, hb3⟩)
    exact ⟨rfl, rfl, hb4.trans (hb3.mono hb4.size)⟩

theorem symbol_limit (t : Tok) (h : Bld b w ts ns ls at_ an ap ct cn cp) (hts : ts.length ≤ 1000000) (hns : ns.length ≤ 1000000) (hk : t.kind ≠ 1) (h8 : ts.length = 8) (hf : findG ⟨ts, ns, ls.map Lay.plain⟩ t.text = (0, false)) :
    Calls Try.prog 121 #[.pointer (some ⟨b, 0, none⟩), tokV t] w fun e w' => e = .panicked [{ v := faultV t.line t.col 5, recovered := false }] ∧ Below w.heap.size w w' := by
  have hS : Below w.heap.size w (w.alloc (.cells #[.int .i64 t.kind, .string ⟨t.text.toArray⟩, .int .i64 t.line, .int .i64 t.col] 124)) := (Below.refl _ _).alloc (Nat.le_refl _) _
  have h' := h.alloc (.cells #[.int .i64 t.kind, .string ⟨t.text.toArray⟩, .int .i64 t.line, .int .i64 t.col] 124)
  obtain ⟨b0, b1, b2⟩ := h'.cell
  have hbw := h'.lt
  have hblt := h.lt
  have k0 : (w.alloc (.cells #[.int .i64 t.kind, .string ⟨t.text.toArray⟩, .int .i64 t.line, .int .i64 t.col] 124)).cell? ⟨w.heap.size, 0, none⟩ = some (.int .i64 t.kind) := by go_simp
  have k1 : (w.alloc (.cells #[.int .i64 t.kind, .string ⟨t.text.toArray⟩, .int .i64 t.line, .int .i64 t.col] 124)).cell? ⟨w.heap.size, 1, none⟩ = some (.string ⟨t.text.toArray⟩) := by go_simp
  have k2 : (w.alloc (.cells #[.int .i64 t.kind, .string ⟨t.text.toArray⟩, .int .i64 t.line, .int .i64 t.col] 124)).cell? ⟨w.heap.size, 2, none⟩ = some (.int .i64 t.line) := by go_simp
  have k3 : (w.alloc (.cells #[.int .i64 t.kind, .string ⟨t.text.toArray⟩, .int .i64 t.line, .int .i64 t.col] 124)).cell? ⟨w.heap.size, 3, none⟩ = some (.int .i64 t.col) := by go_simp
  have hsz : (w.alloc (.cells #[.int .i64 t.kind, .string ⟨t.text.toArray⟩, .int .i64 t.line, .int .i64 t.col] 124)).heap.size = w.heap.size + 1 := by simp
  have hk1 : ((t.kind : Int) == 1) = false := by simp; omega
  have h8b : ((ts.length : Int) == 8) = true := by simp; omega
  clear hk h8
  unfold tokV
  go_enter Try.func121, Try.ntmps121
  go_wp2
  generalize w.alloc (.cells #[.int .i64 t.kind, .string ⟨t.text.toArray⟩, .int .i64 t.line, .int .i64 t.col] 124) = S at *
  have HF0 := Lib.hid ((gfind_any _ ⟨ts, ns, ls.map Lay.plain⟩ t.text S.drew (h'.gram.below (Below.refl _ _).drew) hns hts).mono fun e w' he => (⟨he.1.trans (by rw [hf]), he.2⟩ : e = Ending.returned (.tuple #[.int .i64 0, .bool false]) ∧ Below S.drew.heap.size S.drew w'))
  clear hf
  go_region_with (go_at_call 28; with_reducible refine HF0.out.mono ?_
                  rintro e w2 ⟨rfl, hb2⟩)
  all_goals
    have hb3 : Below S.heap.size S w2 := (Below.refl _ _).drew.trans hb2
    have h2 := h'.below hb3
    have hb4 : Below w.heap.size w w2 := hS.trans (hb3.mono hS.size)
    obtain ⟨d0, d1, d2⟩ := h2.cell
    have hlk : w.heap.size < S.heap.size := by omega
    have q0 := (hb3.cell (p := ⟨w.heap.size, 0, none⟩) hlk).trans k0
    have q1 := (hb3.cell (p := ⟨w.heap.size, 1, none⟩) hlk).trans k1
    have q2 := (hb3.cell (p := ⟨w.heap.size, 2, none⟩) hlk).trans k2
    have q3 := (hb3.cell (p := ⟨w.heap.size, 3, none⟩) hlk).trans k3
    have HZ := Lib.hid (show w.heap.size < w2.heap.size from Nat.lt_of_lt_of_le hlk hb3.size)
    have hlt2 : b < w2.heap.size := h2.lt
    clear hb2 hb3 b0 b1 b2 k0 k1 k2 k3 h' hS HF0 hsz hbw hlk
    go_wp2_with (go_at_call 111; refine (refuse_any t 5 _).mono ?_; rintro e w3 ⟨rfl, hb3⟩)
    exact ⟨rfl, rfl, hb4.trans (hb3.mono hb4.size)⟩

set_option maxHeartbeats 4000000 in
theorem symbol_new (t : Tok) (h : Bld b w ts ns ls at_ an ap ct cn cp) (hts : ts.length ≤ 1000000) (hns : ns.length ≤ 1000000) (hk : t.kind ≠ 1) (h8 : ts.length < 8) (hf : findG ⟨ts, ns, ls.map Lay.plain⟩ t.text = (0, false)) :
    Calls Try.prog 121 #[.pointer (some ⟨b, 0, none⟩), tokV t] w fun e w' => e = .returned (.int .i64 ((ts.length + 1 : Nat) : Int)) ∧ Below b w w' ∧ Stays [9, 122] w w' ∧ ∃ at' ct', Bld b w' (ts ++ [t.text]) ns ls at' an ap ct' cn cp := by
  have hS : Below w.heap.size w (w.alloc (.cells #[.int .i64 t.kind, .string ⟨t.text.toArray⟩, .int .i64 t.line, .int .i64 t.col] 124)) := (Below.refl _ _).alloc (Nat.le_refl _) _
  have h' := h.alloc (.cells #[.int .i64 t.kind, .string ⟨t.text.toArray⟩, .int .i64 t.line, .int .i64 t.col] 124)
  obtain ⟨b0, b1, b2⟩ := h'.cell
  have hbw := h'.lt
  have hblt := h.lt
  have k0 : (w.alloc (.cells #[.int .i64 t.kind, .string ⟨t.text.toArray⟩, .int .i64 t.line, .int .i64 t.col] 124)).cell? ⟨w.heap.size, 0, none⟩ = some (.int .i64 t.kind) := by go_simp
  have k1 : (w.alloc (.cells #[.int .i64 t.kind, .string ⟨t.text.toArray⟩, .int .i64 t.line, .int .i64 t.col] 124)).cell? ⟨w.heap.size, 1, none⟩ = some (.string ⟨t.text.toArray⟩) := by go_simp
  have k2 : (w.alloc (.cells #[.int .i64 t.kind, .string ⟨t.text.toArray⟩, .int .i64 t.line, .int .i64 t.col] 124)).cell? ⟨w.heap.size, 2, none⟩ = some (.int .i64 t.line) := by go_simp
  have k3 : (w.alloc (.cells #[.int .i64 t.kind, .string ⟨t.text.toArray⟩, .int .i64 t.line, .int .i64 t.col] 124)).cell? ⟨w.heap.size, 3, none⟩ = some (.int .i64 t.col) := by go_simp
  have hsz : (w.alloc (.cells #[.int .i64 t.kind, .string ⟨t.text.toArray⟩, .int .i64 t.line, .int .i64 t.col] 124)).heap.size = w.heap.size + 1 := by simp
  obtain ⟨i0, hi0, hz0, hz1, hz2⟩ := info_of infoS
  have hk1 : ((t.kind : Int) == 1) = false := by simp; omega
  have h8b : ((ts.length : Int) == 8) = false := by simp; omega
  clear hk
  unfold tokV
  go_enter Try.func121, Try.ntmps121
  go_wp2
  generalize w.alloc (.cells #[.int .i64 t.kind, .string ⟨t.text.toArray⟩, .int .i64 t.line, .int .i64 t.col] 124) = S at *
  have HF0 := Lib.hid ((gfind_any _ ⟨ts, ns, ls.map Lay.plain⟩ t.text S.drew (h'.gram.below (Below.refl _ _).drew) hns hts).mono fun e w' he => (⟨he.1.trans (by rw [hf]), he.2⟩ : e = Ending.returned (.tuple #[.int .i64 0, .bool false]) ∧ Below S.drew.heap.size S.drew w'))
  clear hf
  go_region_with (go_at_call 28; with_reducible refine HF0.out.mono ?_
                  rintro e w2 ⟨rfl, hb2⟩)
  all_goals
    have hb3 : Below S.heap.size S w2 := (Below.refl _ _).drew.trans hb2
    have h2 := h'.below hb3
    have hb4 : Below w.heap.size w w2 := hS.trans (hb3.mono hS.size)
    obtain ⟨d0, d1, d2⟩ := h2.cell
    have hlk : w.heap.size < S.heap.size := by omega
    have q0 := (hb3.cell (p := ⟨w.heap.size, 0, none⟩) hlk).trans k0
    have q1 := (hb3.cell (p := ⟨w.heap.size, 1, none⟩) hlk).trans k1
    have q2 := (hb3.cell (p := ⟨w.heap.size, 2, none⟩) hlk).trans k2
    have q3 := (hb3.cell (p := ⟨w.heap.size, 3, none⟩) hlk).trans k3
    have HZ := Lib.hid (show w.heap.size < w2.heap.size from Nat.lt_of_lt_of_le hlk hb3.size)
    have hlt2 : b < w2.heap.size := h2.lt
    clear hb2 hb3 b0 b1 b2 k0 k1 k2 k3 h' hS HF0 hsz hbw hlk
    go_wp2
    go_region_law (first
      | (refine step_append_lies _ (by rfl) _ _ _ (by rfl) (b + 1) 9 i0 _ 1 16 Try.underlying23 hi0 hz0 hz1 hz2 rfl (by omega) _ ts.length (strs ts) (by rfl) (h2.t.drew.alloc _) ⟨w2.heap.size, 0, none⟩ 1 1 [.string ⟨t.text.toArray⟩] (by rfl) (by rfl) (World.news_of_block (cs := #[.string ⟨t.text.toArray⟩]) (t := 9) (fr := (0, 0)) (heap_alloc_new w2.drew _)) (by simp [Value.oneCell']) (by omega) (by unfold maxLen; omega) (by omega) (by simp; omega) (w2.heap.size + 1) (by simp) ?_
         intro g cap w3 hown3 hgrow3 hat3 hlt3
         have f3 := blk_cell (w := w3) (i := 0) (u := .slice at_ ts.length ct) ((hgrow3.block b (by simp; omega) (by intro e; have := (own_block h2.t e.symm).1; omega)).trans ((Below.heap_alloc w2.drew _ b h2.lt).trans h2.blk)) (by rfl)
         obtain ⟨f3, z3⟩ := f3))
    all_goals
      have hp := ((h2.alloc (.cells #[.string ⟨t.text.toArray⟩] 9)).below ((Below.refl _ _).drew)).put_t (w1 := w3) hown3 hgrow3 (by rcases hat3 with h | h; exact .inl h; exact .inr (by simp; omega))
      have hB := hb4.mono (Nat.le_of_lt hblt)
      have hB1 := (hB.alloc (by omega) (.cells #[.string ⟨t.text.toArray⟩] 9)).drew
      have hB2 := (hB1.grown hgrow3 (by simp; omega) (fun k hk => by have := (own_block h2.t hk).1; omega)).setCell (p := ⟨b, 0, none⟩) (Nat.le_refl _) (.slice (some ⟨g, 0, none⟩) (ts.length + 1) cap)
      have hSt : Stays [9, 122] w (w3.setCell ⟨b, 0, none⟩ (.slice (some ⟨g, 0, none⟩) (ts.length + 1) cap)) :=
        (((Stays.of_below _ hb4).trans (Stays.of_below _ ((Below.refl _ _).drew.alloc (Nat.le_refl _) (.cells #[.string ⟨t.text.toArray⟩] 9)))).trans (Stays.grown (h2.t.drew.alloc _) (by simp) hgrow3)).trans
          (Stays.set ((hgrow3.block b (by simp; omega) (by intro e; have := (own_block h2.t e.symm).1; omega)).trans ((Below.heap_alloc w2.drew _ b h2.lt).trans h2.blk)) (by simp))
      have x0 := hp.cell.1
      have HP := Lib.hid hp
      have HSt := Lib.hid hSt
      clear hp hSt hB hB1 hown3 hgrow3 hat3
      go_wp2
      go_ret
      exact ⟨ret_int (by push_cast; rfl), hB2, HSt.out, _, _, HP.out⟩

end

end Go.Proofs.Ytdnlbmdmaiacaaa
