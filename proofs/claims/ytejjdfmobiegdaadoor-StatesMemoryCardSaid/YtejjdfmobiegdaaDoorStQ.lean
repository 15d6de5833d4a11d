/- states: what holds of all states, in plain words. No program here. -/
import Derived.Test.YtejjdfmobiegdaaDoorStP
set_option linter.unusedVariables false
namespace Go.Proofs.YtejjdfmobiegdaaDoor
open Go.RowKit
open Doc

theorem runS_len {go : List It → Int → List It} {syms : List Int} {b : Nat} : ∀ {n k : Nat} {all r : List StP}, runS go syms b n k all = some r → all.length ≤ r.length
  | 0, _, _, _, h => by cases h
  | n + 1, k, all, r, h => by
    unfold runS at h
    split at h
    · split at h
      · cases h
      · exact Nat.le_trans (leadAll_len go k syms all).1 (runS_len h)
    · cases h; exact Nat.le_refl _
theorem runS_as {go : List It → Int → List It} {syms : List Int} {b c : Nat} : ∀ {n k : Nat} {all r : List StP}, runS go syms b n k all = some r → r.length ≤ c → runS go syms c n k all = some r
  | 0, _, _, _, h, _ => by cases h
  | n + 1, k, all, r, h, hc => by
    unfold runS at h ⊢
    split at h
    · rename_i hk
      rw [if_pos hk]
      split at h
      · cases h
      · have := runS_len h
        rw [if_neg (by omega)]
        exact runS_as h hc
    · rename_i hk
      rw [if_neg hk]
      exact h
theorem runS_few {go : List It → Int → List It} {syms : List Int} {b c : Nat} : ∀ {n k : Nat} {all r : List StP}, runS go syms b n k all = some r → c < r.length → all.length ≤ c → runS go syms c n k all = none
  | 0, _, _, _, h, _, _ => by cases h
  | n + 1, k, all, r, h, hc, hl => by
    unfold runS at h ⊢
    split at h
    · rename_i hk
      rw [if_pos hk]
      split at h
      · cases h
      · split
        · rfl
        · exact runS_few h hc (by omega)
    · cases h
      omega
theorem mach_as {K : MkP} {g : Gr} {b c : Nat} {r : List StP} (h : machS K g b = some r) (hc : r.length ≤ c) : machS K g c = some r := runS_as h hc
theorem mach_few {K : MkP} {g : Gr} {b c : Nat} {r : List StP} (h : machS K g b = some r) (hc : c < r.length) (h1 : 1 ≤ c) : machS K g c = none := runS_few h hc (by simp [firstS]; omega)
theorem mach_len {K : MkP} {g : Gr} {b : Nat} {r : List StP} (h : machS K g b = some r) : 1 ≤ r.length := by have := runS_len h; simpa [firstS] using this

/-! ### What a symbol leads to -/
theorem go_mem {K : MkP} (hk : MkOk K) {l : List It} {s : Int} {x : It} (h : x ∈ goC K l s) : x.2.1 = 0 ∨ ∃ y, goesB K s y = true ∧ stepI y = x := by
  have hx := ((closeC_is hk (overP K l s)).2 x).1 h
  cases hx with
  | base h1 _ =>
    obtain ⟨y, _, h2, h3⟩ := mem_overP.1 h1
    exact .inr ⟨y, h2, h3⟩
  | step _ _ _ _ _ => exact .inl rfl
theorem goes_right {M : MakR} {F : List Nat} {s : Int} {y : It} (h : goesB (mkP M F) s y = true) : 0 ≤ y.2.1 := by
  unfold goesB at h
  have h1 : (restM M y).head? = some s := by
    have h2 : ((mkP M F).rest y).head? = some s := by simpa using h
    exact h2
  unfold restM at h1
  split at h1
  · rename_i hi
    obtain ⟨_, _, h2, _⟩ := isIt_parts hi
    exact h2
  · cases h1
theorem goes_uniq {K : MkP} {s t : Int} {y : It} (h : goesB K s y = true) (k : goesB K t y = true) : s = t := by
  unfold goesB at h k
  have h1 : (K.rest y).head? = some s := by simpa using h
  have h2 : (K.rest y).head? = some t := by simpa using k
  rw [h1] at h2
  exact Option.some.inj h2
theorem step_inj {x y : It} (h : stepI x = stepI y) : x = y := by
  unfold stepI at h
  simp only [Prod.mk.injEq] at h
  exact Prod.ext h.1 (Prod.ext (by have := h.2.1; omega) h.2.2)
theorem go_base {g : Gr} {K : MkP} (hc : CheckG g) (hK : MkOf g K) {l : List It} {s : Int} (h : goC K l s ≠ []) : ∃ y, goesB K s y = true ∧ stepI y ∈ goC K l s ∧ 1 ≤ (stepI y).2.1 := by
  have hk := hK.ok hc
  obtain ⟨x, hx⟩ := List.exists_mem_of_ne_nil _ h
  have hx' := ((closeC_is hk (overP K l s)).2 x).1 hx
  have : ∃ y, goesB K s y = true ∧ Clo K (overP K l s) (stepI y) := by
    clear hx h
    induction hx' with
    | base h1 h2 =>
      obtain ⟨y, h3, h4, h5⟩ := mem_overP.1 h1
      exact ⟨y, h4, .base (by rw [h5]; exact h1) (by rw [h5]; exact h2)⟩
    | step _ _ _ _ _ ih => exact ih
  obtain ⟨y, h1, h2⟩ := this
  refine ⟨y, h1, ((closeC_is hk _).2 _).2 h2, ?_⟩
  obtain ⟨M, F, rfl, _⟩ := hK
  have := goes_right h1
  show 1 ≤ y.2.1 + 1
  omega
theorem go_sym {g : Gr} {K : MkP} (hc : CheckG g) (hK : MkOf g K) {l m : List It} {s t : Int} (h : goC K l s ≠ []) (e : goC K l s = goC K m t) : s = t := by
  obtain ⟨y, h1, h2, h3⟩ := go_base hc hK h
  rw [e] at h2
  rcases go_mem (hK.ok hc) h2 with h4 | ⟨z, h4, h5⟩
  · omega
  · rw [step_inj h5] at h4
    exact goes_uniq h1 h4
theorem beg_dot {g : Gr} {K : MkP} (hc : CheckG g) (hK : MkOf g K) {x : It} (h : x ∈ begC K) : x.2.1 = 0 := by
  have hk := hK.ok hc
  obtain ⟨M, F, rfl, _⟩ := hK
  exact ((closeC_is hk [ownI]).begin h).1
theorem beg_ne {g : Gr} {K : MkP} (hc : CheckG g) (hK : MkOf g K) : begC K ≠ [] := by
  have hk := hK.ok hc
  have hr : K.right ownI = true := by
    obtain ⟨M, F, rfl, _⟩ := hK
    show isIt M ownI = true
    unfold isIt rightM followM ownI
    simp
  intro e
  have := ((closeC_is hk [ownI]).2 ownI).2 (.base (List.mem_singleton.2 rfl) hr)
  unfold begC at e
  rw [e] at this
  cases this
theorem go_beg {g : Gr} {K : MkP} (hc : CheckG g) (hK : MkOf g K) {l : List It} {s : Int} (h : goC K l s ≠ []) : goC K l s ≠ begC K := by
  intro e
  obtain ⟨y, h1, h2, h3⟩ := go_base hc hK h
  rw [e] at h2
  have := beg_dot hc hK h2
  omega

/-! ### What holds while states are found -/
structure RunI (g : Gr) (K : MkP) (all : List StP) (k : Nat) (done : List Int) : Prop where
  z : ∃ o, all[0]? = some ⟨begC K, 0, o⟩
  pre : ∀ (i : Nat), 0 < i → i < all.length → ∃ (j : Nat) (s : Int) (x : StP), j < i ∧ all[j]? = some x ∧ s ∈ symsG g ∧ x.to s = some i
  to_ : ∀ (i : Nat) (x : StP) (s : Int) (t : Nat), all[i]? = some x → x.to s = some t → s ∈ symsG g ∧ (i < k ∨ (i = k ∧ s ∈ done)) ∧ ∃ y, all[t]? = some y ∧ y.by_ = s ∧ y.items = goC K x.items s ∧ goC K x.items s ≠ []
  tot : ∀ (i : Nat) (x : StP) (s : Int), all[i]? = some x → s ∈ symsG g → (i < k ∨ (i = k ∧ s ∈ done)) → goC K x.items s ≠ [] → ∃ t, x.to s = some t
  got : ∀ (i : Nat) (x : StP), 0 < i → all[i]? = some x → x.by_ ∈ symsG g ∧ ∃ l, x.items = goC K l x.by_ ∧ goC K l x.by_ ≠ []
  dist : all.Pairwise fun a b => ¬ (a.by_ = b.by_ ∧ a.items = b.items)
theorem RunI.first (g : Gr) (K : MkP) : RunI g K (firstS K) 0 [] where
  z := ⟨[], rfl⟩
  pre i h1 h2 := by simp [firstS] at h2; omega
  to_ i x s t h1 h2 := by
    have : i = 0 := by have := (List.getElem?_eq_some_iff.1 h1).1; simp [firstS] at this; exact this
    subst this
    cases h1
    cases h2
  tot i x s h1 h2 h3 := by rcases h3 with h3 | ⟨_, h3⟩; omega; cases h3
  got i x h1 h2 := by have := (List.getElem?_eq_some_iff.1 h2).1; simp [firstS] at this; omega
  dist := by simp [firstS]
theorem to_link {x : StP} {sym s : Int} {t : Nat} : ({ x with over := (sym, t) :: x.over } : StP).to s = if s = sym then some t else x.to s := by
  unfold StP.to
  simp only [List.find?_cons]
  by_cases h : s = sym
  · subst h; simp
  · have : (sym == s) = false := by simpa using fun e => h e.symm
    rw [this, if_neg h]
theorem toS_le (all : List StP) (items : List It) (sym : Int) : toS all items sym ≤ all.length := List.findIdx_le_length
theorem toS_at {all : List StP} {items : List It} {sym : Int} (h : toS all items sym < all.length) : ∃ y, all[toS all items sym]? = some y ∧ y.by_ = sym ∧ y.items = items := by
  have := List.findIdx_getElem (xs := all) (p := hitS items sym) (w := h)
  refine ⟨_, List.getElem?_eq_getElem h, ?_⟩
  unfold hitS at this
  simp only [Bool.and_eq_true, beq_iff_eq, decide_eq_true_eq] at this
  exact this
theorem toS_no {all : List StP} {items : List It} {sym : Int} (h : ¬ toS all items sym < all.length) {y : StP} (hy : y ∈ all) : ¬ (y.by_ = sym ∧ y.items = items) := by
  intro e
  refine h (List.findIdx_lt_length_of_exists ⟨y, hy, ?_⟩)
  unfold hitS
  simp [e.1, e.2]
theorem next_at {all : List StP} {items : List It} {sym : Int} {i : Nat} {x : StP} (h : (nextS all items sym)[i]? = some x) : all[i]? = some x ∨ (¬ toS all items sym < all.length ∧ i = all.length ∧ x = ⟨items, sym, []⟩) := by
  unfold nextS at h
  split at h
  · exact .inl h
  · rename_i hn
    by_cases hi : i < all.length
    · rw [List.getElem?_append_left hi] at h
      exact .inl h
    · rw [List.getElem?_append_right (by omega)] at h
      right
      have := (List.getElem?_eq_some_iff.1 h).1
      simp only [List.length_singleton] at this
      have e : i = all.length := by omega
      subst e
      simp at h
      exact ⟨hn, rfl, h.symm⟩
theorem next_old {all : List StP} {items : List It} {sym : Int} {i : Nat} {x : StP} (h : all[i]? = some x) : (nextS all items sym)[i]? = some x := by
  unfold nextS
  split
  · exact h
  · rw [List.getElem?_append_left (List.getElem?_eq_some_iff.1 h).1]; exact h
theorem next_to (all : List StP) (items : List It) (sym : Int) : ∃ y, (nextS all items sym)[toS all items sym]? = some y ∧ y.by_ = sym ∧ y.items = items := by
  by_cases h : toS all items sym < all.length
  · obtain ⟨y, h1, h2⟩ := toS_at h
    exact ⟨y, next_old h1, h2⟩
  · have e : toS all items sym = all.length := by have := toS_le all items sym; omega
    refine ⟨⟨items, sym, []⟩, ?_, rfl, rfl⟩
    unfold nextS
    rw [if_neg h, e, List.getElem?_append_right (Nat.le_refl _), Nat.sub_self]; rfl
theorem link_at {all : List StP} {k : Nat} {sym : Int} {t i : Nat} : (linkS k sym t all)[i]? = (all[i]?).map fun x => if k = i then { x with over := (sym, t) :: x.over } else x := by
  unfold linkS
  rw [List.getElem?_modify]
  cases all[i]? with
  | none => rfl
  | some x => split <;> simp_all
theorem RunI.step {g : Gr} {K : MkP} (hc : CheckG g) (hK : MkOf g K) {all : List StP} {k : Nat} {done : List Int} (h : RunI g K all k done) (hkl : k < all.length) {sym : Int} (hs : sym ∈ symsG g) (hd : sym ∉ done) : RunI g K (leadS (goC K) k all sym) k (sym :: done) := by
  obtain ⟨xk, hxk⟩ : ∃ x, all[k]? = some x := ⟨_, List.getElem?_eq_getElem hkl⟩
  have hit : itemsS all k = xk.items := by unfold itemsS; rw [hxk]
  unfold leadS
  rw [hit]
  split
  · rename_i he
    refine ⟨h.z, h.pre, fun i x s t h1 h2 => ?_, fun i x s h1 h2 h3 h4 => ?_, h.got, h.dist⟩
    · obtain ⟨a, b, c⟩ := h.to_ i x s t h1 h2
      exact ⟨a, b.imp id fun h => ⟨h.1, List.mem_cons_of_mem _ h.2⟩, c⟩
    · rcases h3 with h3 | ⟨h3, h5⟩
      · exact h.tot i x s h1 h2 (.inl h3) h4
      · rcases List.mem_cons.1 h5 with rfl | h5
        · subst h3
          rw [hxk] at h1
          cases h1
          exact absurd he h4
        · exact h.tot i x s h1 h2 (.inr ⟨h3, h5⟩) h4
  · rename_i he
    generalize hE : goC K xk.items sym = E at *
    obtain ⟨y, hy1, hy2, hy3⟩ := next_to all E sym
    have hnl := nextS_len all E sym
    -- each state of the new list, with its links
    have hat : ∀ (i : Nat) (x : StP), (linkS k sym (toS all E sym) (nextS all E sym))[i]? = some x → ∃ x0, (nextS all E sym)[i]? = some x0 ∧ x = if k = i then { x0 with over := (sym, toS all E sym) :: x0.over } else x0 := fun i x hx => by
      rw [link_at] at hx
      cases h0 : (nextS all E sym)[i]? with
      | none => rw [h0] at hx; cases hx
      | some x0 => rw [h0] at hx; exact ⟨x0, rfl, (Option.some.inj hx).symm⟩
    have hput : ∀ (i : Nat) (x0 : StP), (nextS all E sym)[i]? = some x0 → (linkS k sym (toS all E sym) (nextS all E sym))[i]? = some (if k = i then { x0 with over := (sym, toS all E sym) :: x0.over } else x0) := fun i x0 h0 => by rw [link_at, h0]; rfl
    have hib : ∀ (i : Nat) (x0 : StP), (if k = i then ({ x0 with over := (sym, toS all E sym) :: x0.over } : StP) else x0).items = x0.items ∧ (if k = i then ({ x0 with over := (sym, toS all E sym) :: x0.over } : StP) else x0).by_ = x0.by_ := fun i x0 => by split <;> exact ⟨rfl, rfl⟩
    refine ⟨?_, fun i h1 h2 => ?_, fun i x s t h1 h2 => ?_, fun i x s h1 h2 h3 h4 => ?_, fun i x h1 h2 => ?_, ?_⟩
    · obtain ⟨o, ho⟩ := h.z
      have := hput 0 _ (next_old ho)
      rw [this]
      split
      · exact ⟨_, rfl⟩
      · exact ⟨_, rfl⟩
    · have h2' : i < (nextS all E sym).length := by unfold linkS at h2; rwa [List.length_modify] at h2
      by_cases hi : i < all.length
      · obtain ⟨j, s, x, a, b, c, d⟩ := h.pre i h1 hi
        refine ⟨j, s, _, a, hput j x (next_old b), c, ?_⟩
        split
        · rename_i hkj
          rw [to_link]
          split
          · rename_i hss
            subst hss
            have := (h.to_ j x s i b d).2.1
            rcases this with h5 | ⟨_, h5⟩
            · omega
            · exact absurd h5 hd
          · exact d
        · exact d
      · have e : i = all.length := by omega
        have hn : ¬ toS all E sym < all.length := fun hlt => by
          have : nextS all E sym = all := by unfold nextS; rw [if_pos hlt]
          rw [this] at h2'
          exact hi h2'
        have e2 : toS all E sym = i := by have := toS_le all E sym; omega
        refine ⟨k, sym, _, by omega, hput k xk (next_old hxk), hs, ?_⟩
        rw [if_pos rfl, to_link, if_pos rfl, e2]
    · obtain ⟨x0, h3, h4⟩ := hat i x h1
      have hi0 := hib i x0
      rw [← h4] at hi0
      have key : ∀ t0, x0.to s = some t0 → s ∈ symsG g ∧ (i < k ∨ (i = k ∧ s ∈ sym :: done)) ∧ ∃ y, (linkS k sym (toS all E sym) (nextS all E sym))[t0]? = some y ∧ y.by_ = s ∧ y.items = goC K x.items s ∧ goC K x.items s ≠ [] := fun t0 h5 => by
        rcases next_at h3 with h6 | ⟨_, _, h7⟩
        · obtain ⟨a, b, z, c, d, e, f⟩ := h.to_ i x0 s t0 h6 h5
          refine ⟨a, b.imp id fun h => ⟨h.1, List.mem_cons_of_mem _ h.2⟩, _, hput t0 z (next_old c), ?_, ?_, ?_⟩
          · rw [(hib t0 z).2]; exact d
          · rw [(hib t0 z).1, hi0.1]; exact e
          · rw [hi0.1]; exact f
        · rw [h7] at h5
          cases h5
      by_cases hki : k = i
      · rw [if_pos hki] at h4
        rw [h4, to_link] at h2
        split at h2
        · rename_i hss
          subst hss
          cases h2
          subst hki
          rw [next_old hxk] at h3
          cases h3
          refine ⟨hs, .inr ⟨rfl, List.mem_cons_self ..⟩, _, hput _ y hy1, ?_, ?_, ?_⟩
          · rw [(hib _ y).2]; exact hy2
          · rw [(hib _ y).1, hi0.1, hE]; exact hy3
          · rw [hi0.1, hE]; exact he
        · exact key t h2
      · rw [if_neg hki] at h4
        rw [h4] at h2
        exact key t h2
    · obtain ⟨x0, h5, h6⟩ := hat i x h1
      have hi0 := hib i x0
      rw [← h6] at hi0
      rw [hi0.1] at h4
      by_cases hki : k = i
      · rw [if_pos hki] at h6
        rw [h6, to_link]
        split
        · exact ⟨_, rfl⟩
        · rename_i hss
          rcases h3 with h3 | ⟨_, h3⟩
          · omega
          · rcases List.mem_cons.1 h3 with h3 | h3
            · exact absurd h3 hss
            · rcases next_at h5 with h7 | ⟨_, h7, _⟩
              · exact h.tot i x0 s h7 h2 (.inr ⟨hki.symm, h3⟩) h4
              · omega
      · rw [if_neg hki] at h6
        rw [h6]
        have h3 : i < k := by rcases h3 with h3 | ⟨h3, _⟩; exact h3; exact absurd h3.symm hki
        rcases next_at h5 with h7 | ⟨_, h7, _⟩
        · exact h.tot i x0 s h7 h2 (.inl h3) h4
        · omega
    · obtain ⟨x0, h5, h6⟩ := hat i x h2
      have hi0 := hib i x0
      rw [← h6] at hi0
      rw [hi0.1, hi0.2]
      rcases next_at h5 with h7 | ⟨_, _, h7⟩
      · exact h.got i x0 h1 h7
      · rw [h7]
        exact ⟨hs, xk.items, hE.symm, by rw [hE]; exact he⟩
    · have hp : (nextS all E sym).Pairwise fun a b => ¬ (a.by_ = b.by_ ∧ a.items = b.items) := by
        unfold nextS
        split
        · exact h.dist
        · rename_i hn
          rw [List.pairwise_append]
          refine ⟨h.dist, List.pairwise_singleton _ _, fun a ha b hb => ?_⟩
          rw [List.mem_singleton] at hb
          subst hb
          exact toS_no hn ha
      rw [List.pairwise_iff_getElem] at hp ⊢
      intro i j hi hj hij
      have li : i < (nextS all E sym).length := by unfold linkS at hi; rwa [List.length_modify] at hi
      have lj : j < (nextS all E sym).length := by unfold linkS at hj; rwa [List.length_modify] at hj
      have ei := hput i _ (List.getElem?_eq_getElem li)
      have ej := hput j _ (List.getElem?_eq_getElem lj)
      rw [List.getElem?_eq_getElem hi] at ei
      rw [List.getElem?_eq_getElem hj] at ej
      rw [Option.some.inj ei, Option.some.inj ej, (hib i _).1, (hib i _).2, (hib j _).1, (hib j _).2]
      exact hp i j li lj hij
theorem symsG_nodup (g : Gr) (h : g.terms.length ≤ 8) : (symsG g).Nodup := by
  unfold symsG
  rw [List.nodup_append]
  refine ⟨?_, ?_, ?_⟩
  · rw [List.Nodup, List.pairwise_map]
    exact List.nodup_range.imp fun h => by omega
  · rw [List.Nodup, List.pairwise_map]
    exact List.nodup_range.imp fun h => by omega
  · intro a ha b hb
    simp only [List.mem_map, List.mem_range] at ha hb
    obtain ⟨i, _, rfl⟩ := ha
    obtain ⟨j, _, rfl⟩ := hb
    omega
theorem RunI.all {g : Gr} {K : MkP} (hc : CheckG g) (hK : MkOf g K) {k : Nat} : ∀ (syms : List Int) (all : List StP) (done : List Int), RunI g K all k done → k < all.length → (∀ s ∈ syms, s ∈ symsG g) → syms.Nodup → (∀ s ∈ syms, s ∉ done) → ∃ done', RunI g K (leadAll (goC K) syms k all) k done' ∧ (∀ s, s ∈ done' ↔ s ∈ syms ∨ s ∈ done)
  | [], all, done, h, _, _, _, _ => ⟨done, h, fun s => by simp⟩
  | s :: l, all, done, h, hk, h1, h2, h3 => by
    have h4 := List.nodup_cons.1 h2
    have hs := h.step hc hK hk (h1 s (List.mem_cons_self ..)) (h3 s (List.mem_cons_self ..))
    obtain ⟨d, h5, h6⟩ := RunI.all hc hK l _ _ hs (Nat.lt_of_lt_of_le hk (leadS_len _ _ _ _).1) (fun t ht => h1 t (List.mem_cons_of_mem _ ht)) h4.2 fun t ht hm => by
      rcases List.mem_cons.1 hm with rfl | hm
      · exact h4.1 ht
      · exact h3 t (List.mem_cons_of_mem _ ht) hm
    exact ⟨d, h5, fun t => (h6 t).trans (by
      simp only [List.mem_cons]
      constructor
      · rintro (h | h | h)
        · exact .inl (.inr h)
        · exact .inl (.inl h)
        · exact .inr h
      · rintro ((h | h) | h)
        · exact .inr (.inl h)
        · exact .inl h
        · exact .inr (.inr h))⟩
theorem RunI.lead {g : Gr} {K : MkP} (hc : CheckG g) (hK : MkOf g K) {all : List StP} {k : Nat} (h : RunI g K all k []) (hk : k < all.length) : RunI g K (leadAll (goC K) (symsG g) k all) (k + 1) [] := by
  obtain ⟨d, h1, h2⟩ := RunI.all hc hK (symsG g) all [] h hk (fun s hs => hs) (symsG_nodup g hc.t8) (fun s _ hs => by cases hs)
  refine ⟨h1.z, h1.pre, fun i x s t h3 h4 => ?_, fun i x s h3 h4 h5 h6 => ?_, h1.got, h1.dist⟩
  · obtain ⟨a, b, c⟩ := h1.to_ i x s t h3 h4
    exact ⟨a, .inl (by omega), c⟩
  · refine h1.tot i x s h3 h4 ?_ h6
    rcases h5 with h5 | ⟨_, h5⟩
    · by_cases e : i = k
      · exact .inr ⟨e, (h2 s).2 (.inl h4)⟩
      · exact .inl (by omega)
    · cases h5
/-- What holds of all states. -/
structure Whole (g : Gr) (K : MkP) (all : List StP) : Prop where
  z : ∃ o, all[0]? = some ⟨begC K, 0, o⟩
  pre : ∀ (i : Nat), 0 < i → i < all.length → ∃ (j : Nat) (s : Int) (x : StP), j < i ∧ all[j]? = some x ∧ s ∈ symsG g ∧ x.to s = some i
  to_ : ∀ (i : Nat) (x : StP) (s : Int) (t : Nat), all[i]? = some x → x.to s = some t → s ∈ symsG g ∧ 0 < t ∧ t < all.length ∧ ∃ y, all[t]? = some y ∧ y.by_ = s ∧ y.items = goC K x.items s ∧ goC K x.items s ≠ []
  no : ∀ (i : Nat) (x : StP) (s : Int), all[i]? = some x → s ∈ symsG g → x.to s = none → goC K x.items s = []
  ne : ∀ (i : Nat) (x : StP), all[i]? = some x → x.items ≠ []
  dist : ∀ (i j : Nat) (x y : StP), j < i → all[i]? = some x → all[j]? = some y → x.items ≠ y.items
theorem RunI.whole {g : Gr} {K : MkP} (hc : CheckG g) (hK : MkOf g K) {all : List StP} {k : Nat} (h : RunI g K all k []) (hk : ¬ k < all.length) : Whole g K all := by
  have hs0 : ∀ s ∈ symsG g, s ≠ 0 := fun s hs => by rw [mem_symsG] at hs; omega
  have hlt : ∀ (i : Nat) (x : StP), all[i]? = some x → i < all.length := fun i x hx => (List.getElem?_eq_some_iff.1 hx).1
  refine ⟨h.z, h.pre, fun i x s t h1 h2 => ?_, fun i x s h1 h2 h3 => ?_, fun i x h1 => ?_, fun i j x y h1 h2 h3 e => ?_⟩
  · obtain ⟨a, _, y, b, c, d⟩ := h.to_ i x s t h1 h2
    refine ⟨a, Nat.pos_of_ne_zero fun e => ?_, hlt t y b, y, b, c, d⟩
    subst e
    obtain ⟨o, ho⟩ := h.z
    rw [ho] at b
    cases b
    exact hs0 s a c.symm
  · refine Classical.byContradiction fun h4 => ?_
    obtain ⟨t, ht⟩ := h.tot i x s h1 h2 (.inl (by have := hlt i x h1; omega)) h4
    rw [ht] at h3
    cases h3
  · by_cases hi : i = 0
    · subst hi
      obtain ⟨o, ho⟩ := h.z
      rw [ho] at h1
      cases h1
      exact beg_ne hc hK
    · obtain ⟨_, l, h2, h3⟩ := h.got i x (by omega) h1
      rw [h2]; exact h3
  · obtain ⟨hb, l, h5, h6⟩ := h.got i x (by omega) h2
    by_cases hj : j = 0
    · subst hj
      obtain ⟨o, ho⟩ := h.z
      rw [ho] at h3
      cases h3
      rw [h5] at e
      exact go_beg hc hK h6 e
    · obtain ⟨hb2, m, h7, h8⟩ := h.got j y (by omega) h3
      have hby : x.by_ = y.by_ := go_sym hc hK h6 (h5.symm.trans (e.trans h7))
      have := List.pairwise_iff_getElem.1 h.dist j i (hlt j y h3) (hlt i x h2) h1
      rw [(List.getElem?_eq_some_iff.1 h2).2, (List.getElem?_eq_some_iff.1 h3).2] at this
      exact this ⟨hby.symm, e.symm⟩
theorem run_whole {g : Gr} {K : MkP} (hc : CheckG g) (hK : MkOf g K) {b : Nat} : ∀ {n k : Nat} {all r : List StP}, RunI g K all k [] → runS (goC K) (symsG g) b n k all = some r → Whole g K r
  | 0, _, _, _, _, h => by cases h
  | n + 1, k, all, r, hI, h => by
    unfold runS at h
    split at h
    · rename_i hk
      split at h
      · cases h
      · exact run_whole hc hK (hI.lead hc hK hk) h
    · rename_i hk
      cases h
      exact hI.whole hc hK hk
theorem mach_whole {g : Gr} {K : MkP} (hc : CheckG g) (hK : MkOf g K) {b : Nat} {r : List StP} (h : machS K g b = some r) : Whole g K r := run_whole hc hK (RunI.first g K) h
end Go.Proofs.YtejjdfmobiegdaaDoor
