/- What exegeteplay.Grammar's appends do, step by step of a region that draws its order; productions put away. -/
import Derived.Test.YtbliobeibfecaaaDoorPlayF
import Derived.Test.YtbliobeibfecaaaDoorWordT
import Derived.ArgAppend
import Derived.Deep.RegionLaw
set_option linter.unusedVariables false
namespace Go.Proofs.YtbliobeibfecaaaDoor
open Go.RowKit
open Doc

theorem wp_int_app {w : World} {o : Oper} {a : Act} {K : Act → World → Prop} {Q : Exit → Act → World → Prop} (s x : Operand)
    (ho : o.op = .call { callee := .builtin .append, args := #[s, x], argTypes := #[25, 25] })
    (base : Nat) (va : Option Addr) (n vc : Nat) (xs : List Int) (hs : a.eval s = .slice va n vc) (hown : w.ownsRow base 3 1 (.slice va n vc) n (nums xs)) (hb : base ≤ w.heap.size)
    (xa : Option Addr) (l : List Int) (xc : Nat) (hx : a.eval x = .slice xa l.length xc) (hc : Cells w xa (nums l)) (hn : n + l.length ≤ 1000000000000)
    (h : ∀ va' vc' w', w'.ownsRow base 3 1 (.slice va' (n + l.length) vc') (n + l.length) (nums (xs ++ l)) → Below base w w' → K (a.put o.dst (.slice va' (n + l.length) vc')) w') : o.wp Tryd.prog a w K Q := by
  obtain ⟨i0, hi0, hz0, hz1, hz2⟩ := info_of infoI
  by_cases hl : l = []
  · subst hl
    have hnc := (own_cells hown).2
    have hr := run_nothing (P := Tryd.prog) (w := w) 25 o.type 3 i0 Tryd.underlying25 hi0 va n vc hnc xa xc
    have hx0 : a.eval x = .slice xa 0 xc := hx
    unfold Oper.wp execOp
    simp only [ho, resolve, invoke, builtin, Sem.run_bind, Sem.run_pure, Result.andThen_ok, List.map_toArray, List.map_cons, List.map_nil, hs, hx0, hr]
    have h2 := h va vc w (by simpa using hown) (Below.refl _ _)
    have h3 : K (a.put o.dst (.slice va n vc)) w := by simpa using h2
    exact h3
  · obtain ⟨g, off, rfl, hn5⟩ := own_news0 (b := 0) hc hl
    have hm1 : 0 < l.length := List.length_pos_iff.2 hl
    refine wp_append_lies w s x 25 ho base 3 i0 (.int .i64 0) 1 8 Tryd.underlying25 hi0 hz0 hz1 hz2 rfl (by decide) _ n (nums xs) hs hown ⟨g, off, none⟩ l.length xc (nums l) hx (by simp [nums]) hn5 (fun u hu => by obtain ⟨z, _, rfl⟩ := List.mem_map.1 hu; rfl) hm1 (by unfold maxLen; omega) (by omega) hb _ rfl ?_
    intro g4 cap4 w4 hown4 hgrow4 _ _
    exact h _ _ _ (by rw [nums_app]; exact hown4) ((Below.refl base w).grown hgrow4 hb fun k hk => (own_block hown hk).1)
/-- Numbers are appended at a step of a region that draws. -/
theorem step_app {ops : Array Oper} {w : World} {o : Oper} {a : Act} {K : Act → World → Prop} {Q : Exit → Act → World → Prop} {E : Prop} (hgd : o.guard = none) (s x : Operand)
    (ho : o.op = .call { callee := .builtin .append, args := #[s, x], argTypes := #[25, 25] })
    (base : Nat) (va : Option Addr) (n vc : Nat) (xs : List Int) (hs : a.eval s = .slice va n vc) (hown : w.ownsRow base 3 1 (.slice va n vc) n (nums xs)) (hb : base ≤ w.heap.size)
    (xa : Option Addr) (l : List Int) (xc : Nat) (hx : a.eval x = .slice xa l.length xc) (hc : Cells w xa (nums l)) (hn : n + l.length ≤ 1000000000000)
    (h : ∀ va' vc' w', w'.ownsRow base 3 1 (.slice va' (n + l.length) vc') (n + l.length) (nums (xs ++ l)) → Below base w w' → K (a.put o.dst (.slice va' (n + l.length) vc')) w') :
    if Region.wanted o (yielded ops a.tmps) = true then Oper.wp Tryd.prog o a w K Q else E := by
  have hw : Region.wanted o (yielded ops a.tmps) = true := by simp [Region.wanted, hgd]
  rw [if_pos hw]
  exact wp_int_app s x ho base va n vc xs hs hown hb xa l xc hx hc hn h
/-- Productions, none appended. -/
theorem step_noP {ops : Array Oper} {w : World} {o : Oper} {a : Act} {K : Act → World → Prop} {Q : Exit → Act → World → Prop} {E : Prop} (hgd : o.guard = none) (s x : Operand)
    (ho : o.op = .call { callee := .builtin .append, args := #[s, x], argTypes := #[27, 27] })
    (va : Option Addr) (n vc : Nat) (hs : a.eval s = .slice va n vc) (hle : n ≤ vc) (xa : Option Addr) (xc : Nat) (hx : a.eval x = .slice xa 0 xc)
    (h : K (a.put o.dst (.slice va n vc)) w) :
    if Region.wanted o (yielded ops a.tmps) = true then Oper.wp Tryd.prog o a w K Q else E := by
  have hw : Region.wanted o (yielded ops a.tmps) = true := by simp [Region.wanted, hgd]
  rw [if_pos hw]
  obtain ⟨i0, hi0, hz0, hz1, hz2⟩ := info_of infoP
  have hr := run_nothing (P := Tryd.prog) (w := w) 27 o.type 62 i0 Tryd.underlying27 hi0 va n vc hle xa xc
  unfold Oper.wp execOp
  simp only [ho, resolve, invoke, builtin, Sem.run_bind, Sem.run_pure, Result.andThen_ok, List.map_toArray, List.map_cons, List.map_nil, hs, hx, hr]
  exact h
/-- Productions appended to a row that has no room. -/
theorem step_growP {ops : Array Oper} {w : World} {o : Oper} {a : Act} {K : Act → World → Prop} {Q : Exit → Act → World → Prop} {E : Prop} (hgd : o.guard = none) (s x : Operand)
    (ho : o.op = .call { callee := .builtin .append, args := #[s, x], argTypes := #[27, 27] })
    (b : Addr) (n : Nat) (l1 : List Lay) (hs : a.eval s = .slice (some b) n n) (e1 : l1.length = n) (h1 : ∀ j u, (lays l1)[j]? = some u → w.cell? (b.add j) = some u)
    (ad : Addr) (m c : Nat) (l2 : List Lay) (hx : a.eval x = .slice (some ad) m c) (e2 : l2.length = m) (h2 : ∀ j u, (lays l2)[j]? = some u → w.cell? (ad.add j) = some u) (hm : 0 < m) (hn : n + m ≤ 1000)
    (h : ∀ g c' w', w'.ownsRow w.heap.size 62 2 (.slice (some ⟨g, 0, none⟩) (n + m) c') (n + m) (lays (l1 ++ l2)) → w.grownBy w' none → K (a.put o.dst (.slice (some ⟨g, 0, none⟩) (n + m) c')) w') :
    if Region.wanted o (yielded ops a.tmps) = true then Oper.wp Tryd.prog o a w K Q else E := by
  have hw : Region.wanted o (yielded ops a.tmps) = true := by simp [Region.wanted, hgd]
  rw [if_pos hw]
  obtain ⟨i0, hi0, hz0, hz1, hz2⟩ := info_of infoP
  obtain ⟨v', w', hrun, r1, r2⟩ := run_append_arg_grows (P := Tryd.prog) w 27 o.type 62 i0 _ 2 32 Tryd.underlying27 hi0 hz0 hz1 hz2 rfl (by decide) b n n (lays l1) (by rw [lays_len, e1]) h1 ad m c (lays l2) (by rw [lays_len, e2]) h2 (by omega) (by unfold maxLen; omega) (by omega)
  obtain ⟨g, c', rfl, _, _⟩ := r1.form (by omega)
  unfold Oper.wp execOp
  simp only [ho, resolve, invoke, builtin, Sem.run_bind, Sem.run_pure, Result.andThen_ok, List.map_toArray, List.map_cons, List.map_nil, hs, hx, hrun]
  exact h g c' w' (by rw [lays_append]; exact r1) r2

section
variable {b B : Nat} {w : World} {bt bn bp ct cn cp : Nat} {ts ns : List (List UInt8)} {ls : List Lay}
theorem lays_pre (l : List Lay) (k j : Nat) (u : Value) (h : (lays (l.take k))[j]? = some u) : (lays l)[j]? = some u := by
  have e : lays l = lays (l.take k) ++ lays (l.drop k) := by rw [← lays_append, List.take_append_drop]
  rw [e, List.getElem?_append_left (List.getElem?_eq_some_iff.1 h).1]
  exact h
theorem lays_post (l : List Lay) (k j : Nat) (u : Value) (hk : k ≤ l.length) (h : (lays (l.drop k))[j]? = some u) : (lays l)[k * 2 + j]? = some u := by
  have e : lays l = lays (l.take k) ++ lays (l.drop k) := by rw [← lays_append, List.take_append_drop]
  have hl : (lays (l.take k)).length = k * 2 := by rw [lays_len, List.length_take]; omega
  rw [e, List.getElem?_append_right (by omega), hl, show k * 2 + j - k * 2 = j by omega]
  exact h
/-- The last production is put away, in place. -/
theorem OwnG.takeP (h : OwnG b B w bt bn bp ct cn cp ts ns ls) (k : Nat) (hk : k ≤ ls.length) : HasM b B (w.setCell ⟨B, 2, none⟩ (.slice (some ⟨bp, 0, none⟩) k k)) := by
  have keep : ∀ {e size n' : Nat} {a : Option Addr} {c : Nat} {xs : List Value}, w.ownsRow b e size (.slice a n' c) n' xs → e ≠ 29 → CF b (w.setCell ⟨B, 2, none⟩ (.slice (some ⟨bp, 0, none⟩) k k)) a xs := by
    intro e size n' a c xs ho' he
    exact cf_own (own_same ho' fun g hgb _ => Below.heap_setCell _ _ _ _ (show g ≠ B from fun e' => h.apart ho' he (e' ▸ hgb)))
  refine hasM_mk (ap := some ⟨bp, 0, none⟩) (n3 := k) (cp := k) (ls.take k) rfl rfl (by rw [List.length_take]; omega) ((heap_set w B 2 _ _ _ h.q (by simp)).trans (by simp)) (keep h.t (by decide)) (keep h.n (by decide)) ?_ (fun q hq => keep (h.r q (List.mem_of_mem_take hq)) (by decide)) (own_cells h.t).2 (own_cells h.n).2 (Nat.le_refl _) (fun q hq => (own_cells (h.r q (List.mem_of_mem_take hq))).2) h.m.mid.t h.m.mid.n ⟨?_, fun p hp => ?_⟩
  · intro W' hW'
    rcases keep h.p (by decide) W' hW' with hx | ⟨g, off, e, hl, hc⟩
    · refine .inl ?_
      have : (lays ls).length = 0 := by rw [hx]; rfl
      rw [lays_len] at this
      have h0 : ls = [] := List.eq_nil_of_length_eq_zero (by omega)
      rw [h0]; simp [lays]
    · exact .inr ⟨g, off, e, hl, fun j u hj => hc j u (lays_pre ls k j u hj)⟩
  · have := h.m.mid.p.1
    simp only [List.length_map] at this ⊢
    rw [List.length_take]; omega
  · obtain ⟨z, hz, rfl⟩ := List.mem_map.1 hp
    exact h.m.mid.p.2 _ (List.mem_map.2 ⟨z, List.mem_of_mem_take hz, rfl⟩)
end

end Go.Proofs.YtbliobeibfecaaaDoor
