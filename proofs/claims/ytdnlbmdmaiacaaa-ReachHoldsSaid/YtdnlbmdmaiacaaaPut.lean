/- put: a production of numbers. -/
import Derived.Test.YtdnlbmdmaiacaaaRws
import Derived.Test.YtdnlbmdmaiacaaaAnyF
import Derived.Test.YtdnlbmdmaiacaaaFind
import Derived.Test.YtdnlbmdmaiacaaaReadP
namespace Go.Proofs.Ytdnlbmdmaiacaaa
open Go.RowKit
open Doc

theorem three (w : World) (o0 o1 o2 : Obj) : Below w.heap.size w (((w.alloc o0).alloc o1).alloc o2) ∧ (((w.alloc o0).alloc o1).alloc o2).heap.size = w.heap.size + 3 ∧
    (((w.alloc o0).alloc o1).alloc o2).heap[w.heap.size]? = some o0 ∧ (((w.alloc o0).alloc o1).alloc o2).heap[w.heap.size + 1]? = some o1 ∧ (((w.alloc o0).alloc o1).alloc o2).heap[w.heap.size + 1 + 1]? = some o2 := by
  refine ⟨(((Below.refl _ _).alloc (Nat.le_refl _) _).alloc (by simp) _).alloc (by simp <;> omega) _, by simp, ?_, ?_, ?_⟩
  · rw [Below.heap_alloc _ _ _ (by simp <;> omega), Below.heap_alloc _ _ _ (by simp)]; exact heap_alloc_new w o0
  · rw [Below.heap_alloc _ _ _ (by simp)]; have := heap_alloc_new (w.alloc o0) o1; simpa using this
  · have := heap_alloc_new ((w.alloc o0).alloc o1) o2; simpa using this

theorem rowP_take {t n : Nat} {row : List Int} {k : Nat} {x : Int} (hx : row[k]? = some x) : (row.take (k + 1)).map (symP t n) = (row.take k).map (symP t n) ++ [symP t n x] := by
  rw [List.take_add_one, hx]; simp

theorem store3 {w : World} {b : Nat} {v0 v1 v2 : Value} {T : TypeId} (h : w.heap[b]? = some (.cells #[v0, v1, v2] T)) (u0 u1 u2 : Value) :
    (((w.setCell ⟨b, 0, none⟩ u0).setCell ⟨b, 1, none⟩ u1).setCell ⟨b, 2, none⟩ u2).heap[b]? = some (.cells #[u0, u1, u2] T) := by
  have h1 := heap_set w b 0 u0 _ _ h (by simp)
  have h2 := heap_set _ b 1 u1 _ _ h1 (by simp)
  have h3 := heap_set _ b 2 u2 _ _ h2 (by simp)
  exact h3.trans (by simp)
theorem store3_far {w : World} {b : Nat} (u0 u1 u2 : Value) (k : Nat) (hk : k ≠ b) : (((w.setCell ⟨b, 0, none⟩ u0).setCell ⟨b, 1, none⟩ u1).setCell ⟨b, 2, none⟩ u2).heap[k]? = w.heap[k]? := by
  rw [Below.heap_setCell _ _ _ _ hk, Below.heap_setCell _ _ _ _ hk, Below.heap_setCell _ _ _ _ hk]
theorem store3_below {B : Nat} {w0 w : World} {b : Nat} (h : Below B w0 w) (hb : B ≤ b) (u0 u1 u2 : Value) : Below B w0 (((w.setCell ⟨b, 0, none⟩ u0).setCell ⟨b, 1, none⟩ u1).setCell ⟨b, 2, none⟩ u2) :=
  ((h.setCell (p := ⟨b, 0, none⟩) hb _).setCell (p := ⟨b, 1, none⟩) hb _).setCell (p := ⟨b, 2, none⟩) hb _

/-- A part's own row grows by a symbol. -/
theorem row_put {P : Nat} {S W1 w4 : World} {left : Int} {pa : Option Addr} {r : List Int} {pc g cap4 : Nat} {x : Int} {o : Obj} (q4 : w4.heap[P]? = some (.cells #[.int .i64 left, .slice pa r.length pc] 37)) (hP : P < W1.heap.size)
    (hown1 : W1.ownsRow (P + 1) 3 1 (.slice pa r.length pc) r.length (nums r)) (hown4 : w4.ownsRow (P + 1) 3 1 (.slice (some ⟨g, 0, none⟩) (r.length + 1) cap4) (r.length + 1) (nums r ++ [.int .i64 x]))
    (hgrow4 : (W1.alloc o).grownBy w4 (Value.slice pa r.length pc).ownBlock) (hbe : Below P S W1) :
    (w4.setCell ⟨P, 1, none⟩ (.slice (some ⟨g, 0, none⟩) (r.length + 1) cap4)).heap[P]? = some (.cells #[.int .i64 left, .slice (some ⟨g, 0, none⟩) (r ++ [x]).length cap4] 37) ∧
    (w4.setCell ⟨P, 1, none⟩ (.slice (some ⟨g, 0, none⟩) (r.length + 1) cap4)).ownsRow (P + 1) 3 1 (.slice (some ⟨g, 0, none⟩) (r ++ [x]).length cap4) (r ++ [x]).length (nums (r ++ [x])) ∧
    Below P S (w4.setCell ⟨P, 1, none⟩ (.slice (some ⟨g, 0, none⟩) (r.length + 1) cap4)) := by
  have e1 : (r ++ [x]).length = r.length + 1 := by simp
  have e2 : nums (r ++ [x]) = nums r ++ [.int .i64 x] := by simp [nums]
  rw [e1, e2]
  refine ⟨?_, ?_, ?_⟩
  · rw [heap_set w4 P 1 _ _ _ q4 (by simp)]; simp
  · exact own_same hown4 fun k hk _ => Below.heap_setCell _ _ _ _ (by have := (own_block hown4 hk).1; show k ≠ P; omega)
  · exact ((hbe.alloc (Nat.le_of_lt hP) o).grown hgrow4 (by simp; omega) (fun k hk => by have := (own_block hown1 hk).1; omega)).setCell (p := ⟨P, 1, none⟩) (Nat.le_refl _) _

set_option maxRecDepth 100000 in
set_option maxHeartbeats 8000000 in
theorem put_any {b : Nat} {w : World} {ts ns : List (List UInt8)} {ls : List Lay} {at_ an ap : Option Addr} {ct cn cp : Nat} (left : Int) (ra : Option Addr) (rc : Nat) (row : List Int)
    (h : Rws b w ts ns ls at_ an ap ct cn cp) (hra : Cells w ra (nums row)) (hb : b ≤ w.heap.size) (ht : ts.length ≤ 1000) (hn : ns.length ≤ 1000) (htn : 1 ≤ ts.length + ns.length) (hl : ls.length ≤ 1000) (hq : ∀ q ∈ ls, q.right.length ≤ 1000) :
    Calls Try.prog 84 #[.agg #[.slice at_ ts.length ct, .slice an ns.length cn, .slice ap ls.length cp], .int .i64 left, .slice ra row.length rc] w fun e w' =>
      ∃ ap' cp' ls', e = .returned (.agg #[.slice at_ ts.length ct, .slice an ns.length cn, .slice ap' ls'.length cp']) ∧ Rws b w' ts ns ls' at_ an ap' ct cn cp' ∧ w.grownBy w' (Value.slice ap ls.length cp).ownBlock ∧
        (⟨ts, ns, ls'.map Lay.plain⟩ : Gr) = putF ⟨ts, ns, ls.map Lay.plain⟩ left row ∧ (∀ q ∈ ls', q.right.length ≤ 1000) := by
  obtain ⟨i0, hi0, hz0, hz1, hz2⟩ := info_of infoI
  obtain ⟨i1, hi1, hy0, hy1, hy2⟩ := info_of infoP
  obtain ⟨f3, fz, f0, f1, f2⟩ := three w (.cells #[.slice at_ ts.length ct, .slice an ns.length cn, .slice ap ls.length cp] 26) (.cells #[.slice none 0 0, .slice none 0 0, .slice none 0 0] 26) (.cells #[.int .i64 left, .slice none 0 0] 37)
  have HF3 := Lib.hid f3
  have HFZ := Lib.hid fz
  have H := Lib.hid h
  have HRA := Lib.hid hra
  have HQ := Lib.hid hq
  clear h hra hq f3 fz
  go_enter Try.func84, Try.ntmps84
  go_wp2
  have s30 := (blk_cell (i := 0) f0 rfl).1
  have s31 := (blk_cell (i := 1) f0 rfl).1
  have s32 := (blk_cell (i := 2) f0 rfl).1
  have F0 := Lib.hid f0
  have F1 := Lib.hid f1
  have F2 := Lib.hid f2
  clear f0 f1 f2 s30 s31 s32
  generalize hSd : (((w.alloc (.cells #[.slice at_ ts.length ct, .slice an ns.length cn, .slice ap ls.length cp] 26)).alloc (.cells #[.slice none 0 0, .slice none 0 0, .slice none 0 0] 26)).alloc (.cells #[.int .i64 left, .slice none 0 0] 37)) = S at *
  clear hSd
  generalize hB3 : w.heap.size = B3 at *
  have HB3 := Lib.hid hB3
  clear hB3
  go_loopw [9] (fun i wr => ∃ (k : Nat) (pa : Option Addr) (r : List Int) (pc : Nat), k ≤ 3 ∧ k ≤ row.length ∧ i = .int .i64 k ∧ r.length = k ∧ Hid (r = (row.take k).map (symP ts.length ns.length)) ∧ wr.heap[B3 + 1 + 1]? = some (.cells #[.int .i64 left, .slice pa r.length pc] 37) ∧
    wr.ownsRow (B3 + 1 + 1 + 1) 3 1 (.slice pa r.length pc) r.length (nums r) ∧ Below (B3 + 1 + 1) S wr) (fun i _ => 3 - (intOf i).toNat)
  case atStart => exact ⟨0, none, [], 0, by omega, by omega, rfl, rfl, Lib.hid (by simp), F2.out, World.ownsRow_nil _ _ _ _, Below.refl _ _⟩
  case round =>
    obtain ⟨k, pa, r, pc, hk3, hkr, rfl, hrl, HR, q2, hown, hbe⟩ := hrel
    have q0 := (hbe.block B3 (by omega)).trans F0.out
    have hsz : B3 + 2 < wr.heap.size := heap_lt q2
    by_cases hlt : k < row.length ∧ k < 3
    · obtain ⟨hlt, hlt3⟩ := hlt
      obtain ⟨x, hx⟩ : ∃ x, row[k]? = some x := ⟨_, List.getElem?_eq_getElem hlt⟩
      have e1 : (k : Int) < row.length := by omega
      have e2 : (k : Int) < 3 := by omega
      obtain ⟨rb, ro, rfl, hrb, hrc⟩ := HRA.out.get (by unfold nums; intro e; rw [List.map_eq_nil_iff] at e; rw [e] at hlt; simp at hlt)
      rw [HB3.out] at hrb
      have c0 := (hbe.cell (p := ⟨rb, ro + k, none⟩) (show rb < B3 + 2 by omega)).trans ((HF3.out.cell (p := ⟨rb, ro + k, none⟩) hrb).trans (hrc k _ (nums_at hx)))
      have hrb2 : rb < wr.heap.size := by omega
      have d0 := (blk_cell (i := 1) (u := .slice an ns.length cn) q0 rfl).1
      
      obtain ⟨d, hd, hdl⟩ : ∃ d : Nat, x % ((ts.length : Int) + ns.length) = d ∧ d < ts.length + ns.length := ⟨(x % ((ts.length : Int) + ns.length)).toNat, by
        have := Int.emod_nonneg x (show ((ts.length : Int) + ns.length) ≠ 0 by omega); omega, by
        have := Int.emod_nonneg x (show ((ts.length : Int) + ns.length) ≠ 0 by omega)
        have := Int.emod_lt_of_pos x (show (0 : Int) < (ts.length : Int) + ns.length by omega); omega⟩
      have HW := Lib.hid fun a => (within_any x ((ts.length : Int) + ns.length) (by omega) (by omega) (wr.drewN a)).mono fun e w' ⟨he, hw⟩ => (⟨he.trans (by rw [hd]), a, hw⟩ : e = Ending.returned (.int .i64 d) ∧ ∃ n, w' = wr.drewN n)
      have HRS := Lib.hid (show (row.take (k + 1)).map (symP ts.length ns.length) = r ++ [symP ts.length ns.length x] by rw [rowP_take hx, HR.out])
      have HD := Lib.hid hd
      have HXX := Lib.hid hx
      have HRL := Lib.hid hrl
      have hr3 : r.length ≤ 3 := by omega
      clear hd hx hrc hrl
      go_wp2
      go_quiet ((go_at_call 15; exact HW.out _))
      have q21 : (wr.drewN nq).heap[B3 + 1 + 1]? = some (.cells #[.int .i64 left, .slice pa r.length pc] 37) := q2
      have hown1 : (wr.drewN nq).ownsRow (B3 + 1 + 1 + 1) 3 1 (.slice pa r.length pc) r.length (nums r) := own_same hown (fun g _ _ => rfl)
      have hbe1 : Below (B3 + 1 + 1) S (wr.drewN nq) := below_drews hbe nq
      have hsz1 : B3 + 1 + 1 < (wr.drewN nq).heap.size := hsz
      have p1 := (blk_cell (i := 1) (u := .slice pa r.length pc) q21 rfl).1
      clear q2 hown hbe hsz d0 HW c0 hrb2 q0
      generalize wr.drewN nq = W1 at *
      by_cases hdt : d < ts.length
      · have hdt2 : (d : Int) < ts.length := by omega
        have HS := Lib.hid (show symP ts.length ns.length x = d + 1 by
          unfold symP
          rw [show ((ts.length + ns.length : Nat) : Int) = (ts.length : Int) + ns.length by omega, HD.out, if_pos hdt2])
        go_wp2_with (at_builtin; refine wpList_append_lies _ rfl (.tmp 42) (.tmp 45) 35 rfl (B3 + 1 + 1 + 1) 3 i0 (.int .i64 0) 1 8 Try.underlying35 hi0 hz0 hz1 hz2 rfl (by decide) _ r.length (nums r) rfl (hown1.alloc _) ⟨W1.heap.size, 0, none⟩ 1 1 [.int .i64 ((d : Int) + 1)] rfl rfl (World.news_of_block (cs := #[.int .i64 ((d : Int) + 1)]) (t := 3) (fr := (0, 0)) (heap_alloc_new W1 _)) (by simp [Value.oneCell']) (by decide) (by unfold maxLen; omega) (by omega) (by simp; omega) W1.heap.size.succ (by simp) ?_; intro g cap4 w4 hown4 hgrow4 hat4 hlt4; have q4 := (hgrow4.block (B3 + 1 + 1) (by simp; omega) (by intro e; have := (own_block hown1 e.symm).1; omega)).trans ((Below.heap_alloc W1 _ (B3 + 1 + 1) hsz1).trans q21); obtain ⟨p4, z4⟩ := blk_cell (i := 1) (u := .slice pa r.length pc) q4 rfl)
        obtain ⟨g1, g2, g3⟩ := row_put q4 hsz1 hown1 hown4 hgrow4 hbe1
        exact ⟨⟨k + 1, some ⟨g, 0, none⟩, r ++ [(d : Int) + 1], cap4, by omega, by omega, by go_num, by have := HRL.out; simp; omega, Lib.hid (by rw [HRS.out, HS.out]), g1, g2, g3⟩, by simp [intOf]; omega⟩
      · have hdt2 : ¬ (d : Int) < ts.length := by omega
        have HS := Lib.hid (show symP ts.length ns.length x = 100 + (d : Int) - ts.length by
          unfold symP
          rw [show ((ts.length + ns.length : Nat) : Int) = (ts.length : Int) + ns.length by omega, HD.out, if_neg hdt2])
        go_wp2_with (at_builtin; refine wpList_append_lies _ rfl (.tmp 49) (.tmp 54) 35 rfl (B3 + 1 + 1 + 1) 3 i0 (.int .i64 0) 1 8 Try.underlying35 hi0 hz0 hz1 hz2 rfl (by decide) _ r.length (nums r) rfl (hown1.alloc _) ⟨W1.heap.size, 0, none⟩ 1 1 [.int .i64 (100 + (d : Int) - ts.length)] rfl rfl (World.news_of_block (cs := #[.int .i64 (100 + (d : Int) - ts.length)]) (t := 3) (fr := (0, 0)) (heap_alloc_new W1 _)) (by simp [Value.oneCell']) (by decide) (by unfold maxLen; omega) (by omega) (by simp; omega) W1.heap.size.succ (by simp) ?_; intro g cap4 w4 hown4 hgrow4 hat4 hlt4; have q4 := (hgrow4.block (B3 + 1 + 1) (by simp; omega) (by intro e; have := (own_block hown1 e.symm).1; omega)).trans ((Below.heap_alloc W1 _ (B3 + 1 + 1) hsz1).trans q21); obtain ⟨p4, z4⟩ := blk_cell (i := 1) (u := .slice pa r.length pc) q4 rfl)
        obtain ⟨g1, g2, g3⟩ := row_put q4 hsz1 hown1 hown4 hgrow4 hbe1
        exact ⟨⟨k + 1, some ⟨g, 0, none⟩, r ++ [100 + (d : Int) - ts.length], cap4, by omega, by omega, by go_num, by have := HRL.out; simp; omega, Lib.hid (by rw [HRS.out, HS.out]), g1, g2, g3⟩, by simp [intOf]; omega⟩
    · have hfin : r = rowP ts.length ns.length row := by
        rw [HR.out]
        unfold rowP
        congr 1
        by_cases hk : k < 3
        · rw [List.take_of_length_le (by omega), List.take_of_length_le (by omega)]
        · rw [show k = 3 by omega]
      have hwr : Below w.heap.size w wr := by rw [HB3.out]; exact HF3.out.trans (hbe.mono (by omega))
      have h2 := H.out.below hwr
      have p0 := (blk_cell (i := 0) (u := .int .i64 left) q2 rfl).1
      have p1 := (blk_cell (i := 1) (u := .slice pa r.length pc) q2 rfl).1
      have d0 := (blk_cell (i := 0) (u := .slice at_ ts.length ct) q0 rfl).1
      have d1 := (blk_cell (i := 1) (u := .slice an ns.length cn) q0 rfl).1
      have d2 := (blk_cell (i := 2) (u := .slice ap ls.length cp) q0 rfl).1
      have d3 : B3 < wr.heap.size := by omega
      have q1 := (hbe.block (B3 + 1) (by omega)).trans F1.out
      have HH2 := Lib.hid h2
      have HFIN := Lib.hid hfin
      have HQ0 := Lib.hid q0
      have HQ1 := Lib.hid q1
      have HQ2 := Lib.hid q2
      have HWR := Lib.hid hwr
      have HOWN := Lib.hid hown
      have HBE := Lib.hid hbe
      have HRL := Lib.hid hrl
      have hr3 : r.length ≤ 3 := by omega
      have hex : ¬ (k : Int) < row.length ∨ ((k : Int) < row.length ∧ ¬ (k : Int) < 3) := by omega
      clear h2 hfin q0 q1 q2 hwr hown hbe hrl hlt hk3 hkr HR
      rcases hex with hx1 | ⟨hx1, hx2⟩
      all_goals
        go_wp2
        go_loopw [60] (fun i wx => ∃ k : Nat, k ≤ ls.length ∧ i = .int .i64 k ∧ Below wr.heap.size wr wx ∧ Hid (∀ j p, j < k → ls[j]? = some p → p.plain ≠ (left, r))) (fun i _ => ls.length - (intOf i).toNat)
        case atStart => exact ⟨0, by omega, rfl, Below.refl _ _, Lib.hid (by intro j p hj; omega)⟩
        case round =>
          rename World => wx
          obtain ⟨j, hj, rfl, hbx, HI⟩ := hrel
          have y0 := (hbx.cell (p := ⟨B3 + 1 + 1, 0, none⟩) hsz).trans p0
          have y1 := (hbx.cell (p := ⟨B3 + 1 + 1, 1, none⟩) hsz).trans p1
          have z0 := (hbx.cell (p := ⟨B3, 0, none⟩) d3).trans d0
          have z1 := (hbx.cell (p := ⟨B3, 1, none⟩) d3).trans d1
          have z2 := (hbx.cell (p := ⟨B3, 2, none⟩) d3).trans d2
          have hxz : B3 + 1 + 1 < wx.heap.size := Nat.lt_of_lt_of_le hsz hbx.size
          have hxz3 : B3 < wx.heap.size := by omega
          by_cases hjl : j < ls.length
          · obtain ⟨q, hqj⟩ : ∃ q, ls[j]? = some q := ⟨_, List.getElem?_eq_getElem hjl⟩
            obtain ⟨bb, off, hap, hbbl, hc⟩ := ((own_cells HH2.out.p).1.below hbx).get (by intro e; have := (lays_at ls j q hqj).1; rw [e] at this; simp at this)
            have x0 := hc _ _ (lays_at ls j q hqj).1
            have x1 := hc _ _ (lays_at ls j q hqj).2
            rw [← Nat.add_assoc] at x1
            subst hap
            have e3 : (j : Int) < ls.length := by omega
            have hqm := List.mem_of_getElem? hqj
            have hrc := (own_cells (HH2.out.r q hqm)).1.below hbx
            have hq1 := HQ.out q hqm
            have hpc := (own_cells HOWN.out).1.below hbx
            have HSR := Lib.hid fun o => sameRow_any q.addr pa q.cap pc q.right r (wx.alloc o) (hrc.below ((Below.refl _ _).alloc (Nat.le_refl _) _)) (hpc.below ((Below.refl _ _).alloc (Nat.le_refl _) _)) (by omega) (by omega)
            have HQJ := Lib.hid hqj
            have HQM := Lib.hid hqm
            have hnew : Hid (q.plain ≠ (left, r) → ∀ j' p, j' < j + 1 → ls[j']? = some p → p.plain ≠ (left, r)) := Lib.hid fun hne j' p hj' hp => by
              by_cases h : j' = j
              · subst h; rw [hqj] at hp; cases hp; exact hne
              · exact HI.out j' p (by omega) hp
            have hxs : Below wr.heap.size wr wx := hbx
            have HBX := Lib.hid hbx
            have hbx' := Lib.hid hbx
            clear hc hqj hqm hrc hpc hbx hxs
            by_cases hpl : q.left = left
            · have hpl2 : (q.left == left) = true := by simp [hpl]
              cases hsr : decide (q.right = r) with
              | false =>
                have hN := Lib.hid (hnew.out (by intro e; have := congrArg Prod.snd e; rw [decide_eq_false_iff_not] at hsr; exact hsr this))
                clear hpl
                go_wp2_with (go_at_call 59; refine (HSR.out _).mono ?_; rintro e w2 ⟨rfl, n2, rfl⟩; simp only [hsr])
                exact ⟨⟨j + 1, by omega, by go_num, below_drews (HBX.out.alloc HBX.out.size _) n2, hN⟩, by simp [intOf]; omega⟩
              | true =>
                have hrr := of_decide_eq_true hsr
                have hmem := Lib.hid (show (left, rowP ts.length ns.length row) ∈ ls.map Lay.plain by rw [← HFIN.out, ← hrr, ← hpl]; exact List.mem_map.2 ⟨q, HQM.out, rfl⟩)
                obtain ⟨g1, k1⟩ := blk_cell (i := 0) (u := .slice none 0 0) ((hbx'.out.block (B3 + 1) (by omega)).trans HQ1.out) rfl
                obtain ⟨g2, k2⟩ := blk_cell (i := 1) (u := .slice none 0 0) ((hbx'.out.block (B3 + 1) (by omega)).trans HQ1.out) rfl
                obtain ⟨g3, k3⟩ := blk_cell (i := 2) (u := .slice none 0 0) ((hbx'.out.block (B3 + 1) (by omega)).trans HQ1.out) rfl
                have hxz1 : B3 + 1 < wx.heap.size := by omega
                clear hpl hrr
                go_wp2_with (go_at_call 59; refine (HSR.out _).mono ?_; rintro e w2 ⟨rfl, n2, rfl⟩; simp only [hsr])
                have hbA : Below w.heap.size w ((wx.alloc (.cells #[.int .i64 q.left, .slice q.addr q.right.length q.cap] 37)).drewN n2) := below_drews ((HWR.out.trans (HBX.out.mono HWR.out.size)).alloc (Nat.le_trans HWR.out.size HBX.out.size) _) n2
                have hq1A : ((wx.alloc (.cells #[.int .i64 q.left, .slice q.addr q.right.length q.cap] 37)).drewN n2).heap[B3 + 1]? = some (.cells #[.slice none 0 0, .slice none 0 0, .slice none 0 0] 26) := (Below.heap_alloc wx _ (B3 + 1) hxz1).trans ((HBX.out.block (B3 + 1) (by omega)).trans HQ1.out)
                have hst := store3 hq1A (.slice at_ ts.length ct) (.slice an ns.length cn) (.slice (some ⟨bb, off, none⟩) ls.length cp)
                have hF := store3_below hbA (by rw [HB3.out]; omega : w.heap.size ≤ B3 + 1) (.slice at_ ts.length ct) (.slice an ns.length cn) (.slice (some ⟨bb, off, none⟩) ls.length cp)
                (try simp only [Exit.inBlock, Exit.then])
                refine bodyPost_ret (v := .agg #[.slice at_ ts.length ct, .slice an ns.length cn, .slice (some ⟨bb, off, none⟩) ls.length cp]) ?_ rfl ⟨_, _, ls, rfl, H.out.below hF, gb_of hF, ?_, HQ.out⟩
                · rw [results_cell1 (p := 6) (ty := 26) rfl]
                  show ((asAddr (.pointer (some ⟨B3 + 1, 0, none⟩))).run _ _).andThen _ = _
                  show (loadVar 26 ⟨B3 + 1, 0, none⟩).run _ _ = _
                  exact run_loadVar_row _ (B3 + 1) 26 26 _ (0, 0) _ hst Try.underlying26 rfl (by kernel_rfl)
                · unfold putF
                  exact (if_pos hmem.out).symm
            · have hpl2 : (q.left == left) = false := by simp [hpl]
              have hN := Lib.hid (hnew.out (by intro e; exact hpl (congrArg Prod.fst e)))
              clear hpl
              go_wp2
              exact ⟨⟨j + 1, by omega, by go_num, HBX.out.alloc HBX.out.size _, hN⟩, by simp [intOf]; omega⟩
          · have e3 : ¬ (j : Int) < ls.length := by omega
            have HI2 := Lib.hid (show (left, rowP ts.length ns.length row) ∉ ls.map Lay.plain by
              intro hm
              obtain ⟨p, hp, e⟩ := List.mem_map.1 hm
              obtain ⟨i, hi, ei⟩ := List.getElem_of_mem hp
              exact HI.out i p (by omega) (by rw [List.getElem?_eq_getElem hi, ei]) (by rw [e, HFIN.out]))
            have h3 := HH2.out.below hbx
            have hown3 := own_same HOWN.out fun g _ hg => hbx.block g hg
            have q0x := (hbx.block B3 d3).trans HQ0.out
            have hapk : ∀ k, (Value.slice ap ls.length cp).ownBlock = some k → k < B3 := fun k hk => by have := (own_block H.out.p hk).2.1; rw [HB3.out] at this; exact this
            have HAPK := Lib.hid hapk
            have HBX := Lib.hid hbx
            have HH3 := Lib.hid h3
            have HOW3 := Lib.hid hown3
            have HQX := Lib.hid q0x
            have q1x := (hbx.block (B3 + 1) (by omega)).trans HQ1.out
            have HQ1X := Lib.hid q1x
            have hbB : b ≤ wx.heap.size := by omega
            clear HI hbx h3 hown3 q0x hapk q1x
            go_wp2_with (at_builtin; refine wpList_append_lies _ rfl (.tmp 78) (.tmp 80) 24 rfl b 37 i1 (.agg #[.int .i64 0, .slice none 0 0]) 2 32 Try.underlying24 hi1 hy0 hy1 hy2 rfl (by decide) _ ls.length (lays ls) rfl (HH3.out.p.alloc _) ⟨wx.heap.size, 0, none⟩ 1 1 [.int .i64 left, .slice pa r.length pc] rfl rfl (World.news_of_block (cs := #[.int .i64 left, .slice pa r.length pc]) (t := 37) (fr := (0, 0)) (heap_alloc_new wx _)) (by simp [Value.oneCell']) (by decide) (by unfold maxLen; omega) (by omega) (by simp; omega) wx.heap.size.succ (by simp) ?_; intro g cap4 w4 hown4 hgrow4 hat4 hlt4; have q04 := (hgrow4.block B3 (by simp; omega) (by intro e; have := HAPK.out _ e.symm; omega)).trans ((Below.heap_alloc wx _ B3 hxz3).trans HQX.out); have q14 := (hgrow4.block (B3 + 1) (by simp; omega) (by intro e; have := HAPK.out _ e.symm; omega)).trans ((Below.heap_alloc wx _ (B3 + 1) (by omega)).trans HQ1X.out); obtain ⟨v0, x0⟩ := blk_cell (i := 0) (u := .slice at_ ts.length ct) q04 rfl; obtain ⟨v1, x1⟩ := blk_cell (i := 1) (u := .slice an ns.length cn) q04 rfl; obtain ⟨v2, x2⟩ := blk_cell (i := 2) (u := .slice ap ls.length cp) q04 rfl; obtain ⟨v3, x3⟩ := blk_cell (i := 0) (u := .slice none 0 0) q14 rfl; obtain ⟨v4, x4⟩ := blk_cell (i := 1) (u := .slice none 0 0) q14 rfl; obtain ⟨v5, x5⟩ := blk_cell (i := 2) (u := .slice none 0 0) q14 rfl; have hw43 : B3 < w4.heap.size := heap_lt q04; have hw44 : B3 + 1 < w4.heap.size := heap_lt q14; have HQ04 := Lib.hid q04; have HQ14 := Lib.hid q14; clear q04 q14)
            have hq2 : (wx.alloc (.cells #[.int .i64 left, .slice pa r.length pc] 37)).ownsRow b 3 1 (.slice pa r.length pc) r.length (nums r) := own_base' (HOW3.out.alloc _) (by omega)
            have hp4 := (HH3.out.alloc (.cells #[.int .i64 left, .slice pa r.length pc] 37)).put_p (q := ⟨left, r, pa, pc⟩) hown4 hgrow4 hq2
            have hat5 : ∀ k, (Value.slice (some (⟨g, 0, none⟩ : Addr)) (ls ++ [(⟨left, r, pa, pc⟩ : Lay)]).length cap4).ownBlock = some k → k ≠ B3 ∧ k ≠ B3 + 1 := fun k hk => by
              have hk : g = k := by simpa [Value.ownBlock] using hk
              subst hk
              rcases hat4 with h | h
              · have := HAPK.out _ h; omega
              · omega
            have hfar : ∀ k, k ≠ B3 → k ≠ B3 + 1 → ((((w4.setCell ⟨B3, 2, none⟩ (.slice (some ⟨g, 0, none⟩) (ls.length + 1) cap4)).setCell ⟨B3 + 1, 0, none⟩ (.slice at_ ts.length ct)).setCell ⟨B3 + 1, 1, none⟩ (.slice an ns.length cn)).setCell ⟨B3 + 1, 2, none⟩ (.slice (some ⟨g, 0, none⟩) (ls.length + 1) cap4)).heap[k]? = w4.heap[k]? := fun k h1 h2 => by
              rw [store3_far _ _ _ k h2, Below.heap_setCell _ _ _ _ h1]
            have hlow : ∀ {e size n : Nat} {v : Value} {xs : List Value}, w.ownsRow b e size v n xs → ∀ k, v.ownBlock = some k → k ≠ B3 ∧ k ≠ B3 + 1 := fun ho k hk => by have := (own_block ho hk).2.1; rw [HB3.out] at this; omega
            have hF : Rws b ((((w4.setCell ⟨B3, 2, none⟩ (.slice (some ⟨g, 0, none⟩) (ls.length + 1) cap4)).setCell ⟨B3 + 1, 0, none⟩ (.slice at_ ts.length ct)).setCell ⟨B3 + 1, 1, none⟩ (.slice an ns.length cn)).setCell ⟨B3 + 1, 2, none⟩ (.slice (some ⟨g, 0, none⟩) (ls.length + 1) cap4)) ts ns (ls ++ [⟨left, r, pa, pc⟩]) at_ an (some ⟨g, 0, none⟩) ct cn cap4 := hp4.same
              (fun k hk => hfar k (hlow H.out.t k hk).1 (hlow H.out.t k hk).2) (fun k hk => hfar k (hlow H.out.n k hk).1 (hlow H.out.n k hk).2) (fun k hk => hfar k (hat5 k hk).1 (hat5 k hk).2)
              (fun q hq k hk => by
                rcases List.mem_append.1 hq with hq | hq
                · exact hfar k (hlow (H.out.r q hq) k hk).1 (hlow (H.out.r q hq) k hk).2
                · rw [List.mem_singleton.1 hq] at hk
                  have := (own_block HOW3.out hk).1
                  exact hfar k (by omega) (by omega))
            have hst := store3 (w := w4.setCell ⟨B3, 2, none⟩ (.slice (some ⟨g, 0, none⟩) (ls.length + 1) cap4)) ((Below.heap_setCell _ _ _ _ (show B3 + 1 ≠ B3 by omega)).trans HQ14.out) (.slice at_ ts.length ct) (.slice an ns.length cn) (.slice (some ⟨g, 0, none⟩) (ls.length + 1) cap4)
            have hG : w.grownBy ((((w4.setCell ⟨B3, 2, none⟩ (.slice (some ⟨g, 0, none⟩) (ls.length + 1) cap4)).setCell ⟨B3 + 1, 0, none⟩ (.slice at_ ts.length ct)).setCell ⟨B3 + 1, 1, none⟩ (.slice an ns.length cn)).setCell ⟨B3 + 1, 2, none⟩ (.slice (some ⟨g, 0, none⟩) (ls.length + 1) cap4)) (Value.slice ap ls.length cp).ownBlock :=
              gb_below (gb_trans (gb_of ((HWR.out.trans (HBX.out.mono HWR.out.size)).alloc (Nat.le_trans HWR.out.size HBX.out.size) (.cells #[.int .i64 left, .slice pa r.length pc] 37))) hgrow4 (fun x hx => .inl hx))
                (store3_below ((Below.refl _ _).setCell (p := ⟨B3, 2, none⟩) (by rw [HB3.out]; exact Nat.le_refl _) _) (by rw [HB3.out]; omega) _ _ _)
            (try simp only [Exit.inBlock, Exit.then])
            refine bodyPost_ret (v := .agg #[.slice at_ ts.length ct, .slice an ns.length cn, .slice (some ⟨g, 0, none⟩) (ls.length + 1) cap4]) ?_ rfl ⟨_, _, ls ++ [⟨left, r, pa, pc⟩], by simp, hF, hG, ?_, ?_⟩
            · rw [results_cell1 (p := 6) (ty := 26) rfl]
              show ((asAddr (.pointer (some ⟨B3 + 1, 0, none⟩))).run _ _).andThen _ = _
              show (loadVar 26 ⟨B3 + 1, 0, none⟩).run _ _ = _
              exact run_loadVar_row _ (B3 + 1) 26 26 _ (0, 0) _ hst Try.underlying26 rfl (by kernel_rfl)
            · unfold putF
              rw [if_neg HI2.out]
              simp [Lay.plain, HFIN.out]
            · intro q hq
              rcases List.mem_append.1 hq with hq | hq
              · exact HQ.out q hq
              · rw [List.mem_singleton.1 hq]; show r.length ≤ _; omega

end Go.Proofs.Ytdnlbmdmaiacaaa
