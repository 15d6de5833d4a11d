/- states: as they lie; copies of rows: walked. -/
import Derived.Test.YtejjdfmobiegdaaDoorStP
import Derived.Test.YtejjdfmobiegdaaDoorMapK
set_option linter.unusedVariables false
namespace Go.Proofs.YtejjdfmobiegdaaDoor
open Go.RowKit
open Doc

/-- A state as it lies: where its items are, its map's block. -/
structure StL where
  ia : Option Addr
  ic : Nat
  mb : Nat
  s : StP
def stC (x : StL) : List Value := [.slice x.ia x.s.items.length x.ic, .int .i64 x.s.by_, .map (some x.mb)]
def stV (l : List StL) : List Value := l.flatMap stC
theorem stV_len (l : List StL) : (stV l).length = l.length * 3 := by
  induction l with
  | nil => rfl
  | cons x l ih => simp only [stV, List.flatMap_cons, List.length_append, List.length_cons] at ih ⊢; rw [show (stC x).length = 3 from rfl, ih]; omega
theorem stV_app (l m : List StL) : stV (l ++ m) = stV l ++ stV m := by simp [stV]
theorem st_at : ∀ {l : List StL} {k : Nat} {x : StL}, l[k]? = some x → (stV l)[k * 3]? = some (.slice x.ia x.s.items.length x.ic) ∧ (stV l)[k * 3 + 1]? = some (.int .i64 x.s.by_) ∧ (stV l)[k * 3 + 2]? = some (.map (some x.mb))
  | [], k, x, h => by simp at h
  | y :: l, 0, x, h => by
    cases h
    exact ⟨rfl, rfl, rfl⟩
  | y :: l, k + 1, x, h => by
    have ih := st_at (l := l) (k := k) (x := x) (by simpa using h)
    have e : stV (y :: l) = stC y ++ stV l := rfl
    have h3 : (stC y).length = 3 := rfl
    refine ⟨?_, ?_, ?_⟩
    · rw [e, List.getElem?_append_right (by omega), h3, show (k + 1) * 3 - 3 = k * 3 by omega]; exact ih.1
    · rw [e, List.getElem?_append_right (by omega), h3, show (k + 1) * 3 + 1 - 3 = k * 3 + 1 by omega]; exact ih.2.1
    · rw [e, List.getElem?_append_right (by omega), h3, show (k + 1) * 3 + 2 - 3 = k * 3 + 2 by omega]; exact ih.2.2
theorem infoSt : (Tryd.prog.info? 117).map (fun i => (i.zero, i.size, i.bytes)) = some (some (.agg #[.slice none 0 0, .int .i64 0, .map none]), 3, 40) := by kernel_rfl
/-- What a state's map holds. -/
def mapF (s : StP) (q : Int) : Option Value := (s.to q).map fun (t : Nat) => Value.int .i64 (t : Int)
/-- All states in memory. -/
structure MsAt (w : World) (base : Nat) (sa : Option Addr) (sc : Nat) (ls : List StL) : Prop where
  own : w.ownsRow base 117 3 (.slice sa ls.length sc) ls.length (stV ls)
  its : ∀ x ∈ ls, OwnI w base x.ia x.ic x.s.items ∧ x.s.items.length ≤ 11200
  map : ∀ x ∈ ls, base ≤ x.mb ∧ MapM w Tryd.prog 3 codeI x.mb (mapF x.s)
  far : (ls.map (·.mb)).Nodup
theorem MsAt.below {w w' : World} {base : Nat} {sa : Option Addr} {sc : Nat} {ls : List StL} (h : MsAt w base sa sc ls) (hb : Below w.heap.size w w') : MsAt w' base sa sc ls :=
  ⟨own_same h.own fun k _ hk => hb.block k hk, fun x hx => ⟨(h.its x hx).1.below hb, (h.its x hx).2⟩, fun x hx => ⟨(h.map x hx).1, (h.map x hx).2.at (hb.block _ (h.map x hx).2.lt)⟩, h.far⟩
/-- A grammar in memory, in rows of its own. -/
structure GrO (w : World) (base : Nat) (at_ an ap : Option Addr) (ct cn cp : Nat) (g : Gr) (ls : List Lay) : Prop where
  p : ls.map Lay.plain = g.prods
  t : w.ownsRow base 9 1 (.slice at_ g.terms.length ct) g.terms.length (strs g.terms)
  n : w.ownsRow base 9 1 (.slice an g.nons.length cn) g.nons.length (strs g.nons)
  q : w.ownsRow base 68 2 (.slice ap ls.length cp) ls.length (lays ls)
  r : ∀ x ∈ ls, w.ownsRow base 3 1 (.slice x.addr x.right.length x.cap) x.right.length (nums x.right)
theorem GrO.below {w w' : World} {base : Nat} {a b c : Option Addr} {ca cb cc : Nat} {g : Gr} {ls : List Lay} (h : GrO w base a b c ca cb cc g ls) (hb : Below w.heap.size w w') : GrO w' base a b c ca cb cc g ls :=
  ⟨h.p, own_same h.t fun k _ hk => hb.block k hk, own_same h.n fun k _ hk => hb.block k hk, own_same h.q fun k _ hk => hb.block k hk, fun x hx => own_same (h.r x hx) fun k _ hk => hb.block k hk⟩
theorem GrO.base {w : World} {B B' : Nat} {a b c : Option Addr} {ca cb cc : Nat} {g : Gr} {ls : List Lay} (h : GrO w B a b c ca cb cc g ls) (hb : B' ≤ B) : GrO w B' a b c ca cb cc g ls :=
  ⟨h.p, own_baseI h.t hb, own_baseI h.n hb, own_baseI h.q hb, fun x hx => own_baseI (h.r x hx) hb⟩
theorem GrO.at {w : World} {base : Nat} {a b c : Option Addr} {ca cb cc : Nat} {g : Gr} {ls : List Lay} (h : GrO w base a b c ca cb cc g ls) : GramAt w (.agg #[.slice a g.terms.length ca, .slice b g.nons.length cb, .slice c ls.length cc]) g :=
  ⟨a, b, c, ca, cb, cc, ls, rfl, h.p, (own_cells h.t).1, (own_cells h.n).1, (own_cells h.q).1, fun x hx => (own_cells (h.r x hx)).1, (own_cells h.t).2, (own_cells h.n).2, (own_cells h.q).2⟩
/-- Rows of other elements stand where blocks of these alone turn. -/
theorem own_stays {w w' : World} {es : List TypeId} (h : Stays es w w') {base e size n : Nat} {v : Value} {xs : List Value} (ho : w.ownsRow base e size v n xs) (he : e ∉ es) : w'.ownsRow base e size v n xs :=
  own_same ho fun k hk _ => by
    obtain ⟨_, _, c, hc⟩ := own_block ho hk
    rw [hc]
    exact h k c e (0, 0) hc he
theorem GrO.stays {w w' : World} {es : List TypeId} (hs : Stays es w w') {base : Nat} {a b c : Option Addr} {ca cb cc : Nat} {g : Gr} {ls : List Lay} (h : GrO w base a b c ca cb cc g ls) (h1 : 9 ∉ es) (h2 : 68 ∉ es) (h3 : 3 ∉ es) : GrO w' base a b c ca cb cc g ls :=
  ⟨h.p, own_stays hs h.t h1, own_stays hs h.n h1, own_stays hs h.q h2, fun x hx => own_stays hs (h.r x hx) h3⟩

/-! ### Copies -/
theorem laysS_len (l : List Lay) : (lays l).length = l.length * 2 := by
  induction l with
  | nil => rfl
  | cons x l ih => simp only [lays, List.flatMap_cons, List.length_append, List.length_cons] at ih ⊢; rw [ih]; simp; omega
theorem lays_app2 (l m : List Lay) : lays (l ++ m) = lays l ++ lays m := by simp [lays]
theorem strs_app2 (l m : List (List UInt8)) : strs (l ++ m) = strs l ++ strs m := by simp [strs]
theorem news_any {W : World} {a : Option Addr} {xs : List Value} (h : Cells W a xs) (hx : xs ≠ []) : ∃ g o, a = some ⟨g, o, none⟩ ∧ ∀ j u, xs[j]? = some u → W.cell? ((⟨g, o, none⟩ : Addr).add j) = some u := by
  obtain ⟨g, o, rfl, _, hc⟩ := h.get hx
  refine ⟨g, o, rfl, fun j u hu => ?_⟩
  have e : (⟨g, o, none⟩ : Addr).add j = ⟨g, o + j, none⟩ := by unfold Addr.add; split <;> simp_all
  rw [e]; exact hc j u hu
theorem strs_len2 (l : List (List UInt8)) : (strs l).length = l.length * 1 := by simp [strs]
theorem wpList_appS2 {w : World} {ops : Array Oper} {rest : List Oper} {o : Oper} {a : Act} {Q : Exit → Act → World → Prop} (hgd : o.guard = none) (s x : Operand)
    (ho : o.op = .call { callee := .builtin .append, args := #[s, x], argTypes := #[26, 26] })
    (base : Nat) (va : Option Addr) (vc : Nat) (ks : List (List UInt8)) (hs : a.eval s = .slice va ks.length vc) (hown : w.ownsRow base 9 1 (.slice va ks.length vc) ks.length (strs ks)) (hb : base ≤ w.heap.size)
    (xa : Option Addr) (l : List (List UInt8)) (xc : Nat) (hx : a.eval x = .slice xa l.length xc) (hc : Cells w xa (strs l)) (hn : ks.length + l.length ≤ 1000000000)
    (h : ∀ va' vc' w', w'.ownsRow base 9 1 (.slice va' (ks ++ l).length vc') (ks ++ l).length (strs (ks ++ l)) → w.grownBy w' (Value.slice va ks.length vc).ownBlock → wpList Tryd.prog ops Q rest (a.put o.dst (.slice va' (ks ++ l).length vc')) w') : wpList Tryd.prog ops Q (o :: rest) a w := by
  obtain ⟨i0, hi0, hz0, hz1, hz2⟩ := info_of infoS
  by_cases hl : l = []
  · subst hl
    have hnc := (own_cells hown).2
    refine wpList_nothing hgd s x 26 ho 9 i0 Tryd.underlying26 hi0 va ks.length vc hs hnc xa xc hx ?_
    have := h va vc w (by rw [List.append_nil]; exact hown) ⟨rfl, rfl, rfl, Nat.le_refl _, fun _ _ _ => rfl⟩
    simpa using this
  · have hm1 : 0 < l.length := List.length_pos_iff.2 hl
    obtain ⟨g, off, rfl, hn5⟩ := news_any hc (by intro e; have := strs_len2 l; rw [e] at this; simp at this; omega)
    refine wpList_append_lies _ hgd s x 26 ho base 9 i0 (.string ⟨#[]⟩) 1 16 Tryd.underlying26 hi0 hz0 hz1 hz2 rfl (by decide) _ ks.length (strs ks) hs hown ⟨g, off, none⟩ l.length xc (strs l) hx (strs_len2 l) hn5 (fun u hu => by obtain ⟨z, _, rfl⟩ := List.mem_map.1 hu; rfl) hm1 (by unfold maxLen; omega) (by omega) hb _ rfl ?_
    intro g4 cap4 w4 hown4 hgrow4 _ _
    have := h (some ⟨g4, 0, none⟩) cap4 w4 (by rw [strs_app2, List.length_append]; exact hown4) hgrow4
    rwa [List.length_append] at this
set_option maxRecDepth 100000 in
set_option maxHeartbeats 2000000 in
theorem cloneS2_any (a : Option Addr) (c : Nat) (l : List (List UInt8)) (w : World) (hc : Cells w a (strs l)) (hl : l.length ≤ 1000000) (hn : a = none → l = []) :
    Calls Tryd.prog 89 #[.slice a l.length c] w fun e w' => ∃ (a' : Option Addr) (c' : Nat), e = .returned (.slice a' l.length c') ∧ w'.ownsRow w.heap.size 9 1 (.slice a' l.length c') l.length (strs l) ∧ Below w.heap.size w w' := by
  have HC := Lib.hid hc
  clear hc
  cases a with
  | none =>
    obtain rfl := hn rfl
    have hEQ : ∀ W, (binOp .eql 26 (.slice none 0 c) (.slice none 0 0)).run Tryd.prog W = .ok (.bool true) W := fun _ => rfl
    go_enter Tryd.func89, Tryd.ntmps89
    go_wp2
    go_ret
    exact ⟨none, 0, rfl, World.ownsRow_nil _ _ _ _, Below.refl _ _⟩
  | some x =>
    clear hn
    have hA : Below w.heap.size w (w.alloc (.cells #[] 9)) := (Below.refl _ _).alloc (Nat.le_refl _) _
    have HO := Lib.hid (World.ownsRow_made (e := 9) (size := 1) (base := w.heap.size) w #[] 0 (Nat.le_refl _) (by unfold maxLen; omega) (by simp))
    have HA := Lib.hid hA
    have HCA := Lib.hid (HC.out.below hA)
    clear hA
    have hEQ : ∀ W, (binOp .eql 26 (.slice (some x) l.length c) (.slice none 0 0)).run Tryd.prog W = .ok (.bool false) W := fun _ => rfl
    go_enter Tryd.func89, Tryd.ntmps89
    go_wp2_with (at_builtin; refine wpList_appS2 rfl (.tmp 5) (.tmp 6) rfl w.heap.size (some ⟨w.heap.size, 0, none⟩) 0 [] rfl HO.out HA.out.size (some x) l c rfl HCA.out (by simp; omega) ?_; intro va vc w4 ho4 hg4)
    go_ret
    have hB := HA.out.grown hg4 HA.out.size (fun k hk => by cases hk; exact Nat.le_refl _)
    simp only [List.nil_append] at ho4 ⊢
    exact ⟨va, vc, rfl, ho4, hB⟩
theorem wpList_appP2 {w : World} {ops : Array Oper} {rest : List Oper} {o : Oper} {a : Act} {Q : Exit → Act → World → Prop} (hgd : o.guard = none) (s x : Operand)
    (ho : o.op = .call { callee := .builtin .append, args := #[s, x], argTypes := #[27, 27] })
    (base : Nat) (va : Option Addr) (vc : Nat) (ks : List Lay) (hs : a.eval s = .slice va ks.length vc) (hown : w.ownsRow base 68 2 (.slice va ks.length vc) ks.length (lays ks)) (hb : base ≤ w.heap.size)
    (xa : Option Addr) (l : List Lay) (xc : Nat) (hx : a.eval x = .slice xa l.length xc) (hc : Cells w xa (lays l)) (hn : ks.length + l.length ≤ 1000000000)
    (h : ∀ va' vc' w', w'.ownsRow base 68 2 (.slice va' (ks ++ l).length vc') (ks ++ l).length (lays (ks ++ l)) → w.grownBy w' (Value.slice va ks.length vc).ownBlock → wpList Tryd.prog ops Q rest (a.put o.dst (.slice va' (ks ++ l).length vc')) w') : wpList Tryd.prog ops Q (o :: rest) a w := by
  obtain ⟨i0, hi0, hz0, hz1, hz2⟩ := info_of infoP
  by_cases hl : l = []
  · subst hl
    have hnc := (own_cells hown).2
    refine wpList_nothing hgd s x 27 ho 68 i0 Tryd.underlying27 hi0 va ks.length vc hs hnc xa xc hx ?_
    have := h va vc w (by rw [List.append_nil]; exact hown) ⟨rfl, rfl, rfl, Nat.le_refl _, fun _ _ _ => rfl⟩
    simpa using this
  · have hm1 : 0 < l.length := List.length_pos_iff.2 hl
    obtain ⟨g, off, rfl, hn5⟩ := news_any hc (by intro e; have := laysS_len l; rw [e] at this; simp at this; omega)
    refine wpList_append_lies _ hgd s x 27 ho base 68 i0 (.agg #[.int .i64 0, .slice none 0 0]) 2 32 Tryd.underlying27 hi0 hz0 hz1 hz2 rfl (by decide) _ ks.length (lays ks) hs hown ⟨g, off, none⟩ l.length xc (lays l) hx (laysS_len l) hn5 (fun u hu => by
      obtain ⟨z, _, hz⟩ := List.mem_flatMap.1 hu
      simp only [List.mem_cons, List.not_mem_nil, or_false] at hz
      rcases hz with rfl | rfl <;> rfl) hm1 (by unfold maxLen; omega) (by omega) hb _ rfl ?_
    intro g4 cap4 w4 hown4 hgrow4 _ _
    have := h (some ⟨g4, 0, none⟩) cap4 w4 (by rw [lays_app2, List.length_append]; exact hown4) hgrow4
    rwa [List.length_append] at this
set_option maxRecDepth 100000 in
set_option maxHeartbeats 2000000 in
theorem cloneP2_any (a : Option Addr) (c : Nat) (l : List Lay) (w : World) (hc : Cells w a (lays l)) (hl : l.length ≤ 1000000) (hn : a = none → l = []) :
    Calls Tryd.prog 90 #[.slice a l.length c] w fun e w' => ∃ (a' : Option Addr) (c' : Nat), e = .returned (.slice a' l.length c') ∧ w'.ownsRow w.heap.size 68 2 (.slice a' l.length c') l.length (lays l) ∧ Below w.heap.size w w' := by
  have HC := Lib.hid hc
  clear hc
  cases a with
  | none =>
    obtain rfl := hn rfl
    have hEQ : ∀ W, (binOp .eql 27 (.slice none 0 c) (.slice none 0 0)).run Tryd.prog W = .ok (.bool true) W := fun _ => rfl
    go_enter Tryd.func90, Tryd.ntmps90
    go_wp2
    go_ret
    exact ⟨none, 0, rfl, World.ownsRow_nil _ _ _ _, Below.refl _ _⟩
  | some x =>
    clear hn
    have hA : Below w.heap.size w (w.alloc (.cells #[] 68)) := (Below.refl _ _).alloc (Nat.le_refl _) _
    have HO := Lib.hid (World.ownsRow_made (e := 68) (size := 2) (base := w.heap.size) w #[] 0 (Nat.le_refl _) (by unfold maxLen; omega) (by simp))
    have HA := Lib.hid hA
    have HCA := Lib.hid (HC.out.below hA)
    clear hA
    have hEQ : ∀ W, (binOp .eql 27 (.slice (some x) l.length c) (.slice none 0 0)).run Tryd.prog W = .ok (.bool false) W := fun _ => rfl
    go_enter Tryd.func90, Tryd.ntmps90
    go_wp2_with (at_builtin; refine wpList_appP2 rfl (.tmp 5) (.tmp 6) rfl w.heap.size (some ⟨w.heap.size, 0, none⟩) 0 [] rfl HO.out HA.out.size (some x) l c rfl HCA.out (by simp; omega) ?_; intro va vc w4 ho4 hg4)
    go_ret
    have hB := HA.out.grown hg4 HA.out.size (fun k hk => by cases hk; exact Nat.le_refl _)
    simp only [List.nil_append] at ho4 ⊢
    exact ⟨va, vc, rfl, ho4, hB⟩
theorem itsV_app2 (l m : List It) : itsV (l ++ m) = itsV l ++ itsV m := its_app l m
theorem wpList_appI2 {w : World} {ops : Array Oper} {rest : List Oper} {o : Oper} {a : Act} {Q : Exit → Act → World → Prop} (hgd : o.guard = none) (s x : Operand)
    (ho : o.op = .call { callee := .builtin .append, args := #[s, x], argTypes := #[54, 54] })
    (base : Nat) (va : Option Addr) (vc : Nat) (ks : List It) (hs : a.eval s = .slice va ks.length vc) (hown : w.ownsRow base 53 3 (.slice va ks.length vc) ks.length (itsV ks)) (hb : base ≤ w.heap.size)
    (xa : Option Addr) (l : List It) (xc : Nat) (hx : a.eval x = .slice xa l.length xc) (hc : Cells w xa (itsV l)) (hn : ks.length + l.length ≤ 1000000000)
    (h : ∀ va' vc' w', w'.ownsRow base 53 3 (.slice va' (ks ++ l).length vc') (ks ++ l).length (itsV (ks ++ l)) → w.grownBy w' (Value.slice va ks.length vc).ownBlock → wpList Tryd.prog ops Q rest (a.put o.dst (.slice va' (ks ++ l).length vc')) w') : wpList Tryd.prog ops Q (o :: rest) a w := by
  obtain ⟨i0, hi0, hz0, hz1, hz2⟩ := info_of infoIt
  by_cases hl : l = []
  · subst hl
    have hnc := (own_cells hown).2
    refine wpList_nothing hgd s x 54 ho 53 i0 Tryd.underlying54 hi0 va ks.length vc hs hnc xa xc hx ?_
    have := h va vc w (by rw [List.append_nil]; exact hown) ⟨rfl, rfl, rfl, Nat.le_refl _, fun _ _ _ => rfl⟩
    simpa using this
  · have hm1 : 0 < l.length := List.length_pos_iff.2 hl
    obtain ⟨g, off, rfl, hn5⟩ := news_any hc (by intro e; have := its_len l; rw [e] at this; simp at this; omega)
    refine wpList_append_lies _ hgd s x 54 ho base 53 i0 (.agg #[.int .i64 0, .int .i64 0, .int .i64 0]) 3 24 Tryd.underlying54 hi0 hz0 hz1 hz2 rfl (by decide) _ ks.length (itsV ks) hs hown ⟨g, off, none⟩ l.length xc (itsV l) hx (its_len l) hn5 (fun u hu => by
      obtain ⟨z, _, hz⟩ := List.mem_flatMap.1 hu
      simp only [itC, List.mem_cons, List.not_mem_nil, or_false] at hz
      rcases hz with rfl | rfl | rfl <;> rfl) hm1 (by unfold maxLen; omega) (by omega) hb _ rfl ?_
    intro g4 cap4 w4 hown4 hgrow4 _ _
    have := h (some ⟨g4, 0, none⟩) cap4 w4 (by rw [itsV_app2, List.length_append]; exact hown4) hgrow4
    rwa [List.length_append] at this
set_option maxRecDepth 100000 in
set_option maxHeartbeats 2000000 in
theorem cloneI2_any (a : Option Addr) (c : Nat) (l : List It) (w : World) (hc : Cells w a (itsV l)) (hl : l.length ≤ 1000000) (hn : a = none → l = []) :
    Calls Tryd.prog 69 #[.slice a l.length c] w fun e w' => ∃ (a' : Option Addr) (c' : Nat), e = .returned (.slice a' l.length c') ∧ w'.ownsRow w.heap.size 53 3 (.slice a' l.length c') l.length (itsV l) ∧ Below w.heap.size w w' := by
  have HC := Lib.hid hc
  clear hc
  cases a with
  | none =>
    obtain rfl := hn rfl
    have hEQ : ∀ W, (binOp .eql 54 (.slice none 0 c) (.slice none 0 0)).run Tryd.prog W = .ok (.bool true) W := fun _ => rfl
    go_enter Tryd.func69, Tryd.ntmps69
    go_wp2
    go_ret
    exact ⟨none, 0, rfl, World.ownsRow_nil _ _ _ _, Below.refl _ _⟩
  | some x =>
    clear hn
    have hA : Below w.heap.size w (w.alloc (.cells #[] 53)) := (Below.refl _ _).alloc (Nat.le_refl _) _
    have HO := Lib.hid (World.ownsRow_made (e := 53) (size := 3) (base := w.heap.size) w #[] 0 (Nat.le_refl _) (by unfold maxLen; omega) (by simp))
    have HA := Lib.hid hA
    have HCA := Lib.hid (HC.out.below hA)
    clear hA
    have hEQ : ∀ W, (binOp .eql 54 (.slice (some x) l.length c) (.slice none 0 0)).run Tryd.prog W = .ok (.bool false) W := fun _ => rfl
    go_enter Tryd.func69, Tryd.ntmps69
    go_wp2_with (at_builtin; refine wpList_appI2 rfl (.tmp 5) (.tmp 6) rfl w.heap.size (some ⟨w.heap.size, 0, none⟩) 0 [] rfl HO.out HA.out.size (some x) l c rfl HCA.out (by simp; omega) ?_; intro va vc w4 ho4 hg4)
    go_ret
    have hB := HA.out.grown hg4 HA.out.size (fun k hk => by cases hk; exact Nat.le_refl _)
    simp only [List.nil_append] at ho4 ⊢
    exact ⟨va, vc, rfl, ho4, hB⟩
end Go.Proofs.YtejjdfmobiegdaaDoor
