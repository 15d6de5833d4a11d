/- reach: Trim, of a grammar that may be. -/
import Derived.Test.YtdnlbmdmaiacaaaReachC
import Derived.Test.YtdnlbmdmaiacaaaRws
import Derived.Deep.CutRange
namespace Go.Proofs.Ytdnlbmdmaiacaaa
open Go.RowKit
open Doc

/-- The places of productions all of whose nonterminals are in F. -/
def trimF (F : Nat) : List (Int × List Int) → Nat → List Int
  | [], _ => []
  | p :: l, i => if bearI p.2 F = true then (i : Int) :: trimF F l (i + 1) else trimF F l (i + 1)
theorem trimF_app (F : Nat) (p : Int × List Int) : ∀ (l : List (Int × List Int)) (i : Nat), trimF F (l ++ [p]) i = trimF F l i ++ (if bearI p.2 F = true then [((i + l.length : Nat) : Int)] else [])
  | [], i => by simp only [List.nil_append, trimF, List.length_nil, Nat.add_zero]
  | q :: l, i => by
    simp only [List.cons_append, trimF, List.length_cons]
    rw [trimF_app F p l (i + 1), show i + 1 + l.length = i + (l.length + 1) by omega]
    split <;> simp
theorem trimF_step {ls : List Lay} {k : Nat} {p : Lay} {F : Nat} (hp : ls[k]? = some p) : trimF F ((ls.take (k + 1)).map Lay.plain) 0 = trimF F ((ls.take k).map Lay.plain) 0 ++ (if bearI p.right F = true then [(k : Int)] else []) := by
  have hk := (List.getElem?_eq_some_iff.1 hp).1
  rw [List.take_add_one, hp]
  simp only [Option.toList_some, List.map_append, List.map_cons, List.map_nil]
  rw [trimF_app]
  have e : 0 + ((ls.take k).map Lay.plain).length = k := by rw [List.length_map, List.length_take]; omega
  rw [e]
  rfl
theorem trimF_len (F : Nat) : ∀ (l : List (Int × List Int)) (i : Nat), (trimF F l i).length ≤ l.length
  | [], _ => by simp [trimF]
  | p :: l, i => by
    have := trimF_len F l (i + 1)
    simp only [trimF]
    split <;> simp only [List.length_cons] <;> omega
theorem trimF_mem (F : Nat) : ∀ (l : List (Int × List Int)) (i : Nat) (x : Int), x ∈ trimF F l i ↔ ∃ j p, l[j]? = some p ∧ bearI p.2 F = true ∧ x = ((i + j : Nat) : Int)
  | [], i, x => by simp [trimF]
  | q :: l, i, x => by
    have ih := trimF_mem F l (i + 1) x
    have step : (∃ j p, (q :: l)[j]? = some p ∧ bearI p.2 F = true ∧ x = ((i + j : Nat) : Int)) ↔ (bearI q.2 F = true ∧ x = (i : Int)) ∨ x ∈ trimF F l (i + 1) := by
      rw [ih]
      constructor
      · rintro ⟨j, p, hj, hb, e⟩
        cases j with
        | zero => simp at hj; subst hj; exact .inl ⟨hb, by simpa using e⟩
        | succ j => exact .inr ⟨j, p, by simpa using hj, hb, by rw [e]; congr 1; omega⟩
      · rintro (⟨hb, e⟩ | ⟨j, p, hj, hb, e⟩)
        · exact ⟨0, q, rfl, hb, by simpa using e⟩
        · exact ⟨j + 1, p, by simpa using hj, hb, by rw [e]; congr 1; omega⟩
    rw [step]
    simp only [trimF]
    split
    · rename_i hb
      rw [List.mem_cons]
      constructor
      · rintro (h | h)
        · exact .inl ⟨hb, h⟩
        · exact .inr h
      · rintro (⟨_, h⟩ | h)
        · exact .inl h
        · exact .inr h
    · rename_i hb
      constructor
      · exact .inr
      · rintro (⟨h, _⟩ | h)
        · exact absurd h hb
        · exact h

/-- How Trim ends. -/
def TrimEnd (B : Nat) (g : Gr) (e : Ending) (w' : World) : Prop :=
  ∃ F : Nat, SetIs F (Fru g) ∧ ((shas F 0 = true ∧ ∃ (a : Option Addr) (c : Nat), e = .returned (.tuple #[.slice a (trimF F g.prods 0).length c, .int .i64 0]) ∧ w'.ownsRow B 3 1 (.slice a (trimF F g.prods 0).length c) (trimF F g.prods 0).length (nums (trimF F g.prods 0))) ∨
    (shas F 0 = false ∧ e = .returned (.tuple #[.slice none 0 0, .int .i64 6])))

set_option maxRecDepth 100000 in
set_option maxHeartbeats 4000000 in
theorem trim_any (v : Value) (g : Gr) (w : World) (hg : GramAt w v g) (h : CheckG g) :
    Calls Try.prog 31 #[v] w fun e w' => TrimEnd w.heap.size g e w' ∧ Below w.heap.size w w' := by
  obtain ⟨i0, hi0, hz0, hz1, hz2⟩ := info_of infoI
  have hg0 := hg
  obtain ⟨a1, a2, a3, c1, c2, c3, ls, rfl, hp, k1, k2, k3, k4, k5, k6, k7⟩ := hg
  have hS : Below w.heap.size w (w.alloc (.cells #[.slice a1 g.terms.length c1, .slice a2 g.nons.length c2, .slice a3 ls.length c3] 26)) := (Below.refl _ _).alloc (Nat.le_refl _) _
  have HCK := Lib.hid (check_calls _ g _ (hg0.below hS) h)
  have HFR := Lib.hid fun (W : World) (hW : Below (w.alloc (.cells #[.slice a1 g.terms.length c1, .slice a2 g.nons.length c2, .slice a3 ls.length c3] 26)).heap.size (w.alloc (.cells #[.slice a1 g.terms.length c1, .slice a2 g.nons.length c2, .slice a3 ls.length c3] 26)) W) => fruitful0_any _ g W ((hg0.below hS).below hW) h
  have HBX := Lib.hid fun (W : World) (hW : Below (w.alloc (.cells #[.slice a1 g.terms.length c1, .slice a2 g.nons.length c2, .slice a3 ls.length c3] 26)).heap.size (w.alloc (.cells #[.slice a1 g.terms.length c1, .slice a2 g.nons.length c2, .slice a3 ls.length c3] 26)) W) => box_at hW
  have hL := rgr_lay (rgr_check h) hp
  have HL := Lib.hid hL.1
  have hls := hL.2
  have HC3 := Lib.hid (k3.below hS)
  have HC4 := Lib.hid (fun p hp => (k4 p hp).below hS)
  have HS := Lib.hid hS
  have HP := Lib.hid hp
  have HPL := Lib.hid fun W => place_any 100 W (by omega) (by omega)
  obtain ⟨B0, hB0⟩ : ∃ B, B = w.heap.size := ⟨_, rfl⟩
  have HB0 := Lib.hid hB0
  clear hg0 hS k1 k2 k3 k4 hp h hL hB0
  go_enter Try.func31, Try.ntmps31
  go_upto_region 5 with (first
    | (go_at_call 14; refine HCK.out.mono ?_; rintro e w2 ⟨rfl, hb2⟩; have q0 := HBX.out _ hb2; have q1 := heap_lt q0; have y0 := (blk_cell (i := 0) (u := .slice a1 g.terms.length c1) q0 rfl).1; have y1 := (blk_cell (i := 1) (u := .slice a2 g.nons.length c2) q0 rfl).1; have y2 := (blk_cell (i := 2) (u := .slice a3 ls.length c3) q0 rfl).1; have HQ0 := Lib.hid q0; clear q0)
    | (go_at_call 72; refine (HFR.out _ hb2).mono ?_; rintro e w3 ⟨⟨F, rfl, hF⟩, hb3⟩))
  have HF := Lib.hid hF
  have hFl := hF.1
  have q3 := (hb3.block _ q1).trans HQ0.out
  have l3 := heap_lt q3
  have x2 := (blk_cell (i := 2) (u := .slice a3 ls.length c3) q3 rfl).1
  have hbw3 := (HS.out.trans (hb2.mono HS.out.size)).trans (hb3.mono (Nat.le_trans HS.out.size hb2.size))
  have HBW3 := Lib.hid hbw3
  have HC33 := Lib.hid ((HC3.out.below hb2).below hb3)
  have HC43 := Lib.hid (fun p hp => ((HC4.out p hp).below hb2).below hb3)
  have HHA := Lib.hid fun W => has_any F 0 hFl W
  clear hF y0 y1 y2 HC3 HC4 HBX HFR HCK q3 hbw3 hb2 hb3 q1
  cases hv : shas F 0 with
  | false =>
    have HV := Lib.hid hv
    go_wp2_with (first
      | (go_at_call 73; refine (HPL.out _).mono ?_; rintro e w4 ⟨rfl, rfl⟩)
      | (go_at_call 45; refine (HHA.out _).mono ?_; rintro e w4 ⟨rfl, rfl⟩; simp only [hv]))
    go_ret2
    exact ⟨⟨F, HF.out, .inr ⟨HV.out, rfl⟩⟩, HBW3.out⟩
  | true =>
    have HV := Lib.hid hv
    go_wp2_with (first
      | (go_at_call 73; refine (HPL.out _).mono ?_; rintro e w4 ⟨rfl, rfl⟩)
      | (go_at_call 45; refine (HHA.out _).mono ?_; rintro e w4 ⟨rfl, rfl⟩; simp only [hv]))
    rename World => w3
    have hB3 : B0 ≤ w3.heap.size := by rw [HB0.out]; exact HBW3.out.size
    go_loopw [6, 23] (fun v i wr => ∃ (k : Nat) (a : Option Addr) (c : Nat), k ≤ ls.length ∧ i = .int .i64 k ∧ v = .slice a (trimF F ((ls.take k).map Lay.plain) 0).length c ∧ Hid (wr.ownsRow w3.heap.size 3 1 (.slice a (trimF F ((ls.take k).map Lay.plain) 0).length c) (trimF F ((ls.take k).map Lay.plain) 0).length (nums (trimF F ((ls.take k).map Lay.plain) 0))) ∧ Below w3.heap.size w3 wr) (fun _ i _ => ls.length - (intOf i).toNat)
    case atStart => exact ⟨0, none, 0, by omega, rfl, rfl, Lib.hid (World.ownsRow_nil _ _ _ _), Below.refl _ _⟩
    case round =>
      obtain ⟨k, a, c, hk, rfl, rfl, HO, hbe⟩ := hrel
      by_cases hlt : k < ls.length
      · obtain ⟨p, hp⟩ : ∃ p, ls[k]? = some p := ⟨_, List.getElem?_eq_getElem hlt⟩
        obtain ⟨pl, pr, pa, pc⟩ := p
        obtain ⟨b3, o3, rfl, hb3, hc3⟩ := (HC33.out.below hbe).get (by intro e; have := (lays_at ls k _ hp).1; rw [e] at this; simp at this)
        have x0 := hc3 _ _ (lays_at ls k _ hp).1
        have x1 := hc3 _ _ (lays_at ls k _ hp).2
        rw [← Nat.add_assoc] at x1
        simp only at x0 x1
        have e1 : (k : Int) < ls.length := by omega
        have hpm := List.mem_of_getElem? hp
        obtain ⟨r1, r2, r3, r4⟩ := HL.out _ hpm
        simp only at r1 r2 r3 r4
        have hbA : Below wr.heap.size wr (wr.alloc (.cells #[.int .i64 pl, .slice pa pr.length pc] 37)) := (Below.refl _ _).alloc (Nat.le_refl _) _
        have HBR := Lib.hid (bears_any pl pa pc pr F hFl (wr.alloc (.cells #[.int .i64 pl, .slice pa pr.length pc] 37)) ((show Cells wr pa (nums pr) from (HC43.out _ hpm).below hbe).below hbA) r1 r2)
        have HST := Lib.hid (trimF_step (F := F) hp)
        have htl := trimF_len F ((ls.take k).map Lay.plain) 0
        rw [List.length_map, List.length_take] at htl
        have HBE := Lib.hid hbe
        have HBA := Lib.hid hbA
        have hsz := hbe.size
        clear hc3 hp hpm r1 hbA hbe
        generalize trimF F ((ls.take k).map Lay.plain) 0 = T at *
        have htl6 : T.length ≤ 1000000 := by omega
        cases hbv : bearI pr F with
        | true =>
          have hN := Lib.hid (show trimF F ((ls.take (k + 1)).map Lay.plain) 0 = T ++ [(k : Int)] by rw [HST.out]; congr 1; exact if_pos hbv)
          go_wp2_with (first
            | (go_at_call 74; refine HBR.out.mono ?_; rintro e w4 ⟨rfl, hb4⟩; simp only [hbv]; have ho4 := own_same HO.out (fun g _ hl => (hb4.block g (Nat.lt_of_lt_of_le hl HBA.out.size)).trans (HBA.out.block g hl)); have HO4 := Lib.hid ho4; clear ho4; have hz4 : w3.heap.size ≤ w4.heap.size := Nat.le_trans hsz (Nat.le_trans HBA.out.size hb4.size))
            | (at_builtin; refine wpList_append_lies _ rfl (.tmp 31) (.tmp 33) 35 rfl w3.heap.size 3 i0 (.int .i64 0) 1 8 Try.underlying35 hi0 hz0 hz1 hz2 rfl (by decide) _ T.length (nums T) rfl (HO4.out.alloc _) ⟨w4.heap.size, 0, none⟩ 1 1 [.int .i64 (k : Int)] rfl rfl (World.news_of_block (cs := #[.int .i64 (k : Int)]) (t := 3) (fr := (0, 0)) (heap_alloc_new w4 _)) (by simp [Value.oneCell']) (by decide) (by unfold maxLen; omega) (by omega) (by simp; omega) w4.heap.size.succ (by simp) ?_; intro g5 cap5 w5 hown5 hgrow5 hat5 hlt5; have HO5 := Lib.hid hown5; have HG5 := Lib.hid hgrow5; clear hown5 hgrow5))
          exact ⟨⟨k + 1, some ⟨g5, 0, none⟩, cap5, by omega, by go_num, by rw [hN.out]; simp, Lib.hid (by rw [hN.out]; simpa [nums] using HO5.out), ((HBE.out.trans ((HBA.out.trans (hb4.mono HBA.out.size)).mono HBE.out.size)).alloc hz4 _).grown HG5.out (by simp; omega) (fun x hx => (own_block HO4.out hx).1)⟩, by simp [intOf]; omega⟩
        | false =>
          have hN := Lib.hid (show trimF F ((ls.take (k + 1)).map Lay.plain) 0 = T by rw [HST.out]; rw [if_neg (by show ¬ bearI pr F = true; rw [hbv]; decide)]; simp)
          go_wp2_with (go_at_call 74; refine HBR.out.mono ?_; rintro e w4 ⟨rfl, hb4⟩; simp only [hbv])
          exact ⟨⟨k + 1, a, c, by omega, by go_num, by rw [hN.out], Lib.hid (by rw [hN.out]; exact own_same HO.out (fun g _ hl => (hb4.block g (Nat.lt_of_lt_of_le hl HBA.out.size)).trans (HBA.out.block g hl))), HBE.out.trans ((HBA.out.trans (hb4.mono HBA.out.size)).mono HBE.out.size)⟩, by simp [intOf]; omega⟩
      · have e1 : ¬ (k : Int) < ls.length := by omega
        have hN := Lib.hid (show trimF F ((ls.take k).map Lay.plain) 0 = trimF F g.prods 0 by rw [List.take_of_length_le (by omega), HP.out])
        generalize trimF F ((ls.take k).map Lay.plain) 0 = T at *
        have HBE := Lib.hid hbe
        clear hbe
        go_wp2
        go_ret2
        exact ⟨⟨F, HF.out, .inl ⟨HV.out, a, c, by rw [← hN.out]; rfl, by rw [← hN.out]; exact own_base' HO.out (by rw [← HB0.out]; exact hB3)⟩⟩, HBW3.out.trans (HBE.out.mono HBW3.out.size)⟩

end Go.Proofs.Ytdnlbmdmaiacaaa
