/- addNon: a rule's name. -/
import Derived.Test.YtdnlbmdmaiacaaaBld
import Derived.Test.YtdnlbmdmaiacaaaNames
import Derived.Deep.RegionLaw
namespace Go.Proofs.Ytdnlbmdmaiacaaa
open Go.RowKit
open Doc

theorem infoS : (Try.prog.info? 9).map (fun i => (i.zero, i.size, i.bytes)) = some (some (.string ⟨#[]⟩), 1, 16) := by kernel_rfl
theorem infoP : (Try.prog.info? 37).map (fun i => (i.zero, i.size, i.bytes)) = some (some (.agg #[.int .i64 0, .slice none 0 0]), 2, 32) := by kernel_rfl
theorem infoI : (Try.prog.info? 3).map (fun i => (i.zero, i.size, i.bytes)) = some (some (.int .i64 0), 1, 8) := by kernel_rfl
theorem info_of {i : Option TypeInfo} {z : Option Value} {a b : Nat} (h : i.map (fun i => (i.zero, i.size, i.bytes)) = some (z, a, b)) : ∃ j, i = some j ∧ j.zero = z ∧ j.size = a ∧ j.bytes = b := by
  cases i with
  | none => cases h
  | some j => simp only [Option.map_some, Option.some.injEq, Prod.mk.injEq] at h; exact ⟨j, rfl, h.1, h.2.1, h.2.2⟩

section
variable {b : Nat} {w : World} {ts ns : List (List UInt8)} {ls : List Lay} {at_ an ap : Option Addr} {ct cn cp : Nat}

theorem blk_cell {w : World} {b i : Nat} {u : Value} {cs : Array Value} {t : TypeId} (hb : w.heap[b]? = some (.cells cs t)) (hi : cs[i]? = some u) : w.cell? ⟨b, i, none⟩ = some u ∧ w.frozen? ⟨b, i, none⟩ = false := by
  refine ⟨?_, ?_⟩
  · rw [cell_of_row w b i cs t _ hb]; exact hi
  · unfold World.frozen?; rw [hb]; simp

theorem addNon_twice (t : Tok) (h : Bld b w ts ns ls at_ an ap ct cn cp) (hn : ns.length ≤ 8) (hi : (idx ns t.text).isSome = true) :
    Calls Try.prog 91 #[.pointer (some ⟨b, 0, none⟩), tokV t] w fun e w' => e = .panicked [{ v := faultV t.line t.col 4, recovered := false }] ∧ Below w.heap.size w w' := by
  have hS : Below w.heap.size w (w.alloc (.cells #[.int .i64 t.kind, .string ⟨t.text.toArray⟩, .int .i64 t.line, .int .i64 t.col] 124)) := (Below.refl _ _).alloc (Nat.le_refl _) _
  have h' := h.alloc (.cells #[.int .i64 t.kind, .string ⟨t.text.toArray⟩, .int .i64 t.line, .int .i64 t.col] 124)
  obtain ⟨b0, b1, b2⟩ := h'.cell
  have hbw := h'.lt
  have hblt := h.lt
  have k0 : (w.alloc (.cells #[.int .i64 t.kind, .string ⟨t.text.toArray⟩, .int .i64 t.line, .int .i64 t.col] 124)).cell? ⟨w.heap.size, 0, none⟩ = some (.int .i64 t.kind) := by go_simp
  have k1 : (w.alloc (.cells #[.int .i64 t.kind, .string ⟨t.text.toArray⟩, .int .i64 t.line, .int .i64 t.col] 124)).cell? ⟨w.heap.size, 1, none⟩ = some (.string ⟨t.text.toArray⟩) := by go_simp
  have k2 : (w.alloc (.cells #[.int .i64 t.kind, .string ⟨t.text.toArray⟩, .int .i64 t.line, .int .i64 t.col] 124)).cell? ⟨w.heap.size, 2, none⟩ = some (.int .i64 t.line) := by go_simp
  have k3 : (w.alloc (.cells #[.int .i64 t.kind, .string ⟨t.text.toArray⟩, .int .i64 t.line, .int .i64 t.col] 124)).cell? ⟨w.heap.size, 3, none⟩ = some (.int .i64 t.col) := by go_simp
  have hsz : (w.alloc (.cells #[.int .i64 t.kind, .string ⟨t.text.toArray⟩, .int .i64 t.line, .int .i64 t.col] 124)).heap.size = w.heap.size + 1 := by simp
  unfold tokV
  go_enter Try.func91, Try.ntmps91
  go_wp2
  generalize w.alloc (.cells #[.int .i64 t.kind, .string ⟨t.text.toArray⟩, .int .i64 t.line, .int .i64 t.col] 124) = S at *
  have hcells := (own_cells h'.n).1
  have hns : ns.length ≤ 1000000 := by omega
  have HC := Lib.hid fun a => (contains_any an cn ns t.text (S.drewN a) (hcells.below (below_drews (Below.refl _ _) _)) hns).mono fun e w' ⟨he, hw⟩ => (⟨he.trans (by rw [hi]), a, hw⟩ : e = Ending.returned (.bool true) ∧ ∃ n, w' = S.drewN n)
  clear hcells
  go_quiet ((go_at_call 94; exact HC.out _))
  clear hi
  go_wp2_with (go_at_call 111; refine (refuse_any t 4 _).mono ?_; rintro e w2 ⟨rfl, hb2⟩)
  exact ⟨rfl, rfl, (below_drews hS _).trans (hb2.mono hS.size)⟩

theorem addNon_limit (t : Tok) (h : Bld b w ts ns ls at_ an ap ct cn cp) (hn : ns.length = 8) (hi : (idx ns t.text).isSome = false) :
    Calls Try.prog 91 #[.pointer (some ⟨b, 0, none⟩), tokV t] w fun e w' => e = .panicked [{ v := faultV t.line t.col 5, recovered := false }] ∧ Below w.heap.size w w' := by
  have hS : Below w.heap.size w (w.alloc (.cells #[.int .i64 t.kind, .string ⟨t.text.toArray⟩, .int .i64 t.line, .int .i64 t.col] 124)) := (Below.refl _ _).alloc (Nat.le_refl _) _
  have h' := h.alloc (.cells #[.int .i64 t.kind, .string ⟨t.text.toArray⟩, .int .i64 t.line, .int .i64 t.col] 124)
  obtain ⟨b0, b1, b2⟩ := h'.cell
  have hbw := h'.lt
  have hblt := h.lt
  have k0 : (w.alloc (.cells #[.int .i64 t.kind, .string ⟨t.text.toArray⟩, .int .i64 t.line, .int .i64 t.col] 124)).cell? ⟨w.heap.size, 0, none⟩ = some (.int .i64 t.kind) := by go_simp
  have k1 : (w.alloc (.cells #[.int .i64 t.kind, .string ⟨t.text.toArray⟩, .int .i64 t.line, .int .i64 t.col] 124)).cell? ⟨w.heap.size, 1, none⟩ = some (.string ⟨t.text.toArray⟩) := by go_simp
  have k2 : (w.alloc (.cells #[.int .i64 t.kind, .string ⟨t.text.toArray⟩, .int .i64 t.line, .int .i64 t.col] 124)).cell? ⟨w.heap.size, 2, none⟩ = some (.int .i64 t.line) := by go_simp
  have k3 : (w.alloc (.cells #[.int .i64 t.kind, .string ⟨t.text.toArray⟩, .int .i64 t.line, .int .i64 t.col] 124)).cell? ⟨w.heap.size, 3, none⟩ = some (.int .i64 t.col) := by go_simp
  have hsz : (w.alloc (.cells #[.int .i64 t.kind, .string ⟨t.text.toArray⟩, .int .i64 t.line, .int .i64 t.col] 124)).heap.size = w.heap.size + 1 := by simp
  have hn8 : ((ns.length : Int) == 8) = true := by simp; omega
  have hns : ns.length ≤ 1000000 := by omega
  clear hn
  unfold tokV
  go_enter Try.func91, Try.ntmps91
  go_wp2
  generalize w.alloc (.cells #[.int .i64 t.kind, .string ⟨t.text.toArray⟩, .int .i64 t.line, .int .i64 t.col] 124) = S at *
  have hcells := (own_cells h'.n).1
  have HC := Lib.hid fun a => (contains_any an cn ns t.text (S.drewN a) (hcells.below (below_drews (Below.refl _ _) _)) hns).mono fun e w' ⟨he, hw⟩ => (⟨he.trans (by rw [hi]), a, hw⟩ : e = Ending.returned (.bool false) ∧ ∃ n, w' = S.drewN n)
  clear hcells
  go_quiet ((go_at_call 94; exact HC.out _))
  clear hi
  go_wp2_with (go_at_call 111; refine (refuse_any t 5 _).mono ?_; rintro e w2 ⟨rfl, hb2⟩)
  exact ⟨rfl, rfl, (below_drews hS _).trans (hb2.mono hS.size)⟩

theorem addNon_ok (t : Tok) (h : Bld b w ts ns ls at_ an ap ct cn cp) (hn : ns.length < 8) (hi : (idx ns t.text).isSome = false) :
    Calls Try.prog 91 #[.pointer (some ⟨b, 0, none⟩), tokV t] w fun e w' => e = .returned (.tuple #[]) ∧ Below b w w' ∧ ∃ an' cn', Bld b w' ts (ns ++ [t.text]) ls at_ an' ap ct cn' cp := by
  obtain ⟨i0, hi0, hz0, hz1, hz2⟩ := info_of infoS
  have hS : Below w.heap.size w (w.alloc (.cells #[.int .i64 t.kind, .string ⟨t.text.toArray⟩, .int .i64 t.line, .int .i64 t.col] 124)) := (Below.refl _ _).alloc (Nat.le_refl _) _
  have h' := h.alloc (.cells #[.int .i64 t.kind, .string ⟨t.text.toArray⟩, .int .i64 t.line, .int .i64 t.col] 124)
  obtain ⟨b0, b1, b2⟩ := h'.cell
  have hbw := h'.lt
  have hblt := h.lt
  have k0 : (w.alloc (.cells #[.int .i64 t.kind, .string ⟨t.text.toArray⟩, .int .i64 t.line, .int .i64 t.col] 124)).cell? ⟨w.heap.size, 0, none⟩ = some (.int .i64 t.kind) := by go_simp
  have k1 : (w.alloc (.cells #[.int .i64 t.kind, .string ⟨t.text.toArray⟩, .int .i64 t.line, .int .i64 t.col] 124)).cell? ⟨w.heap.size, 1, none⟩ = some (.string ⟨t.text.toArray⟩) := by go_simp
  have k2 : (w.alloc (.cells #[.int .i64 t.kind, .string ⟨t.text.toArray⟩, .int .i64 t.line, .int .i64 t.col] 124)).cell? ⟨w.heap.size, 2, none⟩ = some (.int .i64 t.line) := by go_simp
  have k3 : (w.alloc (.cells #[.int .i64 t.kind, .string ⟨t.text.toArray⟩, .int .i64 t.line, .int .i64 t.col] 124)).cell? ⟨w.heap.size, 3, none⟩ = some (.int .i64 t.col) := by go_simp
  have hsz : (w.alloc (.cells #[.int .i64 t.kind, .string ⟨t.text.toArray⟩, .int .i64 t.line, .int .i64 t.col] 124)).heap.size = w.heap.size + 1 := by simp
  unfold tokV
  go_enter Try.func91, Try.ntmps91
  go_wp2
  generalize w.alloc (.cells #[.int .i64 t.kind, .string ⟨t.text.toArray⟩, .int .i64 t.line, .int .i64 t.col] 124) = S at *
  have hcells := (own_cells h'.n).1
  have hns : ns.length ≤ 1000000 := by omega
  have HC := Lib.hid fun a => (contains_any an cn ns t.text (S.drewN a) (hcells.below (below_drews (Below.refl _ _) _)) hns).mono fun e w' ⟨he, hw⟩ => (⟨he.trans (by rw [hi]), a, hw⟩ : e = Ending.returned (.bool false) ∧ ∃ n, w' = S.drewN n)
  clear hcells
  go_quiet ((go_at_call 94; exact HC.out _))
  clear hi
  have hn8 : ((ns.length : Int) == 8) = false := by simp; omega
  go_wp2
  have hb2 : Below w.heap.size w (S.drewN nq) := below_drews hS nq
  have h2 := h'.below (below_drews (Below.refl S.heap.size S) nq)
  have c0 := h2.cell.2.1
  have c1 : (S.drewN nq).cell? ⟨w.heap.size, 1, none⟩ = some (.string ⟨t.text.toArray⟩) := k1
  have HZ := Lib.hid (show (S.drewN nq).heap.size = w.heap.size + 1 from hsz)
  have hlt2 : b < (S.drewN nq).heap.size := h2.lt
  clear b0 b1 b2 k0 k1 k2 k3 h' hS HC hsz hbw
  generalize S.drewN nq = S2 at *
  go_region_law (first
    | (refine step_append_lies _ (by rfl) _ _ _ (by rfl) (b + 1) 9 i0 _ 1 16 Try.underlying23 hi0 hz0 hz1 hz2 rfl (by omega) _ ns.length (strs ns) (by rfl) (h2.n.drew.alloc _) ⟨S2.heap.size, 0, none⟩ 1 1 [.string ⟨t.text.toArray⟩] (by rfl) (by rfl) (World.news_of_block (cs := #[.string ⟨t.text.toArray⟩]) (t := 9) (fr := (0, 0)) (heap_alloc_new S2.drew _)) (by simp [Value.oneCell']) (by omega) (by unfold maxLen; omega) (by omega) (by have := h2.lt; simp; omega) (S2.heap.size + 1) (by simp) ?_
       intro g cap w3 hown3 hgrow3 hat3 hlt3
       have f3 := blk_cell (w := w3) (i := 1) (u := .slice an ns.length cn) ((hgrow3.block b (by have := h2.lt; simp; omega) (by intro e; have := (own_block h2.n e.symm).1; omega)).trans ((Below.heap_alloc S2.drew _ b h2.lt).trans h2.blk)) (by rfl)
       obtain ⟨f3, z3⟩ := f3))
  all_goals
    go_end0
    have hp := ((h2.alloc (.cells #[.string ⟨t.text.toArray⟩] 9)).below ((Below.refl _ _).drew)).put_n (w1 := w3) hown3 hgrow3 (by rcases hat3 with h | h; exact .inl h; exact .inr (by simp; omega))
    refine ⟨rfl, ?_, _, _, hp⟩
    have hB := hb2.mono (Nat.le_of_lt hblt)
    have hB1 := (hB.alloc (by omega) (.cells #[.string ⟨t.text.toArray⟩] 9)).drew
    exact (hB1.grown hgrow3 (by simp; omega) (fun k hk => by have := (own_block h2.n hk).1; omega)).setCell (Nat.le_refl _) _
end

end Go.Proofs.Ytdnlbmdmaiacaaa
