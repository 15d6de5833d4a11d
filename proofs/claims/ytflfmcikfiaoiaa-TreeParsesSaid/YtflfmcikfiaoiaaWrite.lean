/- (*strings.Builder).WriteString at this dump: what it writes, and what stays. -/
import Derived.Test.YtflfmcikfiaoiaaShelfB
import Derived.Test.YtflfmcikfiaoiaaForm
import Derived.Shelf.Strings.Builder1
import Derived.Lib.AppendStr
namespace Go.Proofs.Ytflfmcikfiaoiaa
open Go.RowKit
open Doc

theorem infoB : (Try.prog.info? 5).map (fun i => (i.zero, i.size, i.bytes)) = some (some (.int .u8 0), 1, 1) := by kernel_rfl
theorem sizeB : (Try.prog.info? 166).map (·.size) = some 2 := by kernel_rfl
theorem liesB : liesAt Try.prog Try.prog.depth 166 (2 / Try.prog.cellsOf 166) 0 166 1 = true := by kernel_rfl

set_option maxHeartbeats 1000000 in
set_option maxRecDepth 100000 in
theorem copy_used (b : Nat) (w : World) (h0 : w.cell? ⟨b, 0, none⟩ = some (.pointer (some ⟨b, 0, none⟩))) :
    Calls Try.prog 171 #[.pointer (some ⟨b, 0, none⟩)] w fun e w' => e = .returned (.tuple #[]) ∧ w' = w := by
  obtain ⟨j, hj, _⟩ := Option.map_eq_some_iff.1 sizeB
  go_enter Try.func171, Try.ntmps171
  go_wp2
  rw [Lib.run_neq_ptr_same w _ Try.underlying164 hj]
  go_wp2
  go_end0
  exact ⟨rfl, rfl⟩

set_option maxHeartbeats 1000000 in
set_option maxRecDepth 100000 in
theorem copy_fresh (b : Nat) (w : World) (h0 : w.cell? ⟨b, 0, none⟩ = some (.pointer none)) (hsh : w.shape? b = some (166, 2)) (hfz : w.frozen? ⟨b, 0, none⟩ = false) :
    Calls Try.prog 171 #[.pointer (some ⟨b, 0, none⟩)] w fun e w' => e = .returned (.tuple #[]) ∧ w' = w.setCell ⟨b, 0, none⟩ (.pointer (some ⟨b, 0, none⟩)) := by
  obtain ⟨j, hj, hjs⟩ := Option.map_eq_some_iff.1 sizeB
  go_enter Try.func171, Try.ntmps171
  go_wp2
  rw [Lib.run_to_unsafe w ⟨b, 0, none⟩ Try.underlying164 Try.underlying236 hj (by rw [hjs]; decide) hsh (Nat.zero_lt_succ 1)]
  simp only [Result.andThen]
  rw [Oper.upon_value]
  go_wp2
  rw [run_callFunc_extern Try.func183 (by kernel_rfl) (by kernel_rfl) (by kernel_rfl) (e := Extern.AbiNoEscape.same) (by kernel_rfl)]
  rw [Lib.run_noEscape]
  simp only [Result.andThen]
  rw [Oper.upon_value]
  go_wp2
  rw [Lib.run_from_unsafe w ⟨b, 0, none⟩ Try.underlying236 Try.underlying164 hj hsh liesB]
  simp only [Result.andThen]
  rw [Oper.upon_value]
  go_wp2
  go_end0
  exact ⟨rfl, rfl⟩

/-- The builder of text at block b: what it holds. -/
abbrev TextAt (B b : Nat) (l : List UInt8) (w : World) : Prop := Lib.IsBuilder 166 5 B b (Lib.byteCells l) w

theorem copy_any (B b : Nat) (bs : List Value) (w : World) (h : Lib.IsBuilder 166 5 B b bs w) :
    Calls Try.prog 171 #[.pointer (some ⟨b, 0, none⟩)] w fun e w' => e = .returned (.tuple #[]) ∧ Lib.BuilderAt 166 5 B b (.pointer (some ⟨b, 0, none⟩)) bs w' ∧ Below B w w' ∧ Stays [5, 166] w w' := by
  rcases h with h | h
  · refine (copy_fresh b w h.cell0 h.shape h.frozen0).mono ?_
    rintro e w' ⟨rfl, rfl⟩
    have h' := h
    obtain ⟨hB, v, hbk, _⟩ := h'
    exact ⟨rfl, h.used _, (Below.refl B w).setCell (p := ⟨b, 0, none⟩) h.1 _, Stays.set hbk (by simp)⟩
  · refine (copy_used b w h.cell0).mono ?_
    rintro e w' ⟨rfl, rfl⟩
    exact ⟨rfl, h, Below.refl B _, fun _ _ _ _ h _ => h⟩

set_option maxHeartbeats 1000000 in
set_option maxRecDepth 100000 in
theorem writeString_any (B b : Nat) (l : List UInt8) (s : List UInt8) (w : World) (h : TextAt B b l w) (hlen : l.length + s.length ≤ 1000000000) (hBw : B ≤ w.heap.size) :
    Calls Try.prog 148 #[.pointer (some ⟨b, 0, none⟩), .string ⟨s.toArray⟩] w fun e w' => (∃ v, e = .returned v) ∧ TextAt B b (l ++ s) w' ∧ Below B w w' ∧ Stays [5, 166] w w' := by
  obtain ⟨i0, hi, hz0, hz1, hz2⟩ := info_of infoB
  go_enter Try.func148, Try.ntmps148
  go_wp2_with (first
    | (go_at_call 171; refine (copy_any B b (Lib.byteCells l) _ h).mono ?_; rintro e w1 ⟨rfl, ⟨hB, v, hbk, hown, hne⟩, hb1, hst1⟩
       have c0 := (blk_cell (i := 0) hbk rfl).1
       have c1 := (blk_cell (i := 1) hbk rfl).1
       have hll : (Lib.byteCells l).length = l.length := Lib.byteCells_length l
       rw [hll] at hown
       have hss : (ByteArray.mk s.toArray).size = s.length := rfl
       clear hll)
    | (at_builtin; refine Lib.wpList_append_own_string _ rfl (.tmp 12) (.tmp 13) 78 9 rfl B 5 i0 Try.underlying78 Try.underlying9 hi hz0 hz1 hz2 v l.length (Lib.byteCells l) rfl hown ⟨s.toArray⟩ rfl (by unfold maxLen; omega) (by omega) (by have := hb1.size; omega) ?_
       intro v' w2 hown2 hgrow2 _
       have hlt := heap_lt hbk
       have hbk2 := (hgrow2.block b hlt (fun e => hne e.symm)).trans hbk
       obtain ⟨d0, y0⟩ := blk_cell (i := 0) hbk2 rfl
       obtain ⟨d1, y1⟩ := blk_cell (i := 1) hbk2 rfl
       obtain ⟨ao, n', cap, rfl⟩ : ∃ ao n' cap, v' = .slice ao n' cap := by
         rcases hown2.2 with ⟨hv, _⟩ | ⟨g, cap, cur, hv, _⟩
         · exact ⟨_, _, _, hv⟩
         · exact ⟨_, _, _, hv⟩))
  go_ret2
  have hst : Stays [5, 166] w (w2.setCell ⟨b, 1, none⟩ (.slice ao n' cap)) := (hst1.trans (Stays.grown hown (by simp) hgrow2)).trans (Stays.set hbk2 (by simp))
  have hbel : Below B w (w2.setCell ⟨b, 1, none⟩ (.slice ao n' cap)) := (hb1.grown hgrow2 (by have := hb1.size; omega) (fun k hk => (own_block hown hk).1)).setCell (p := ⟨b, 1, none⟩) hB _
  have hput : Lib.BuilderAt 166 5 B b (.pointer (some ⟨b, 0, none⟩)) (Lib.byteCells (l ++ s)) (w2.setCell ⟨b, 1, none⟩ (.slice ao n' cap)) := by
    have e1 : Lib.byteCells l ++ Lib.strCells ⟨s.toArray⟩ = Lib.byteCells (l ++ s) := by simp [Lib.byteCells, Lib.strCells]
    have e2 : l.length + (ByteArray.mk s.toArray).size = (Lib.byteCells (l ++ s)).length := by rw [Lib.byteCells_length, List.length_append]; rfl
    rw [e1, e2] at hown2
    exact Lib.BuilderAt.put hB hbk2 hown2 (by decide)
  exact ⟨⟨_, rfl⟩, .inr hput, hbel, hst⟩

end Go.Proofs.Ytflfmcikfiaoiaa
