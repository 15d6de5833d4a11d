/- The document's own rules of tokens: walked. The document's own Parse: what stands in memory while a rule's parts are read. The document's own Parse: what is known of tokens and rules. No program here. -/
import Derived.Test.YtejjdfmobiegdaaDoorParse
import Derived.Test.YtejjdfmobiegdaaDoorRefs
import Derived.Test.YtejjdfmobiegdaaDoorRaw
import Derived.Deep.RegionLaw
namespace Go.Proofs.YtejjdfmobiegdaaDoor
open Go.RowKit
open Doc

theorem infoTk : (Tryd.prog.info? 102).map (fun i => (i.zero, i.size, i.bytes)) = some (some (.agg #[.int .i64 0, .string ⟨#[]⟩, .int .i64 0, .int .i64 0]), 4, 40) := by kernel_rfl
theorem infoRu : (Tryd.prog.info? 106).map (fun i => (i.zero, i.size, i.bytes)) = some (some (.agg #[.int .i64 0, .string ⟨#[]⟩, .int .i64 0, .int .i64 0, .slice none 0 0]), 5, 64) := by kernel_rfl

/-- A rule as it lies. -/
structure RuL where
  name : Tok
  rest : List Tok
  addr : Option Addr
  cap : Nat
def RuL.plain (r : RuL) : Ru := ⟨r.name, r.rest⟩
def ruCells (r : RuL) : List Value := tcells r.name ++ [.slice r.addr r.rest.length r.cap]
def ruAll (l : List RuL) : List Value := l.flatMap ruCells
theorem ruAll_snoc (l : List RuL) (r : RuL) : ruAll (l ++ [r]) = ruAll l ++ ruCells r := by simp [ruAll]

/-- The tokens of a text end with a line's end. -/
def EndsOk (L : List Tok) : Prop := ∀ t, L.getLast? = some t → t.kind = 5
theorem not_last {L : List Tok} (h : EndsOk L) {j : Nat} {t : Tok} (ht : L[j]? = some t) (hk : t.kind ≠ 5) : j + 1 < L.length := by
  obtain ⟨hj, e⟩ := List.getElem?_eq_some_iff.1 ht
  rcases Nat.lt_or_ge (j + 1) L.length with h1 | h1
  · exact h1
  · have : j = L.length - 1 := by omega
    subst this
    exact absurd (h t (by rw [List.getLast?_eq_getElem?]; exact ht)) hk
theorem drop_cons {L : List Tok} {k : Nat} {t : Tok} (ht : L[k]? = some t) : L.drop k = t :: L.drop (k + 1) := by
  obtain ⟨hk, e⟩ := List.getElem?_eq_some_iff.1 ht
  rw [List.drop_eq_getElem_cons hk, e]

theorem results_tct {fn : Func} {p0 p1 p2 : Tmp} {t1 : TypeId} (h : fn.results = #[.tmp p0, .cell p1 t1, .tmp p2]) {tmps : Array Value} {P : Program} {w : World} {a : Addr} {v1 : Value} (h1 : tmps.getD p1 undef = .pointer (some a)) (l1 : (loadVar t1 a).run P w = .ok v1 w) :
    (results fn tmps).run P w = .ok (.tuple #[tmps.getD p0 undef, v1, tmps.getD p2 undef]) w := by
  simp only [results, h]
  simp at h1
  simp [Result.andThen, h1, l1, asAddr]

theorem own_other {w w' : World} {B e size n : Nat} {v : Value} {xs : List Value} {B' e' size' n' : Nat} {v' : Value} {xs' : List Value} (ho : w.ownsRow B e size v n xs) (hg : w.grownBy w' v'.ownBlock) (h' : w.ownsRow B' e' size' v' n' xs') (he : e ≠ e') : w'.ownsRow B e size v n xs :=
  own_same ho fun g hgk hl => hg.block g hl (fun e => own_apart ho h' he hgk e.symm)
theorem tall_snoc (r : List Tok) (u : Tok) : tall (r ++ [u]) = tall r ++ tcells u := by simp [tall]

/-- How rules ends. -/
def RulesEnd (B : Nat) (L : List Tok) (e : Ending) (w' : World) : Prop :=
  match (ruleF L .start).2 with
  | some b => e = .returned (.tuple #[.slice none 0 0, .agg #[.int .i64 b.kind, .string ⟨b.text.toArray⟩, .int .i64 b.line, .int .i64 b.col], .bool false])
  | none => ∃ (rs : List RuL) (a : Option Addr) (c : Nat), e = .returned (.tuple #[.slice a rs.length c, .agg #[.int .i64 0, .string ⟨#[]⟩, .int .i64 0, .int .i64 0], .bool true]) ∧ rs.map RuL.plain = (ruleF L .start).1 ∧ w'.ownsRow B 106 5 (.slice a rs.length c) rs.length (ruAll rs) ∧
      ∀ r ∈ rs, w'.ownsRow B 102 4 (.slice r.addr r.rest.length r.cap) r.rest.length (tall r.rest)

theorem store4 {w : World} {b : Nat} {v0 v1 v2 v3 : Value} {T : TypeId} (h : w.heap[b]? = some (.cells #[v0, v1, v2, v3] T)) (u0 u1 u2 u3 : Value) :
    ((((w.setCell ⟨b, 0, none⟩ u0).setCell ⟨b, 1, none⟩ u1).setCell ⟨b, 2, none⟩ u2).setCell ⟨b, 3, none⟩ u3).heap[b]? = some (.cells #[u0, u1, u2, u3] T) := by
  have h1 := heap_set w b 0 u0 _ _ h (by simp)
  have h2 := heap_set _ b 1 u1 _ _ h1 (by simp)
  have h3 := heap_set _ b 2 u2 _ _ h2 (by simp)
  have h4 := heap_set _ b 3 u3 _ _ h3 (by simp)
  exact h4.trans (by simp)
theorem far4 {w : World} {b k : Nat} (u0 u1 u2 u3 : Value) (hk : k ≠ b) : ((((w.setCell ⟨b, 0, none⟩ u0).setCell ⟨b, 1, none⟩ u1).setCell ⟨b, 2, none⟩ u2).setCell ⟨b, 3, none⟩ u3).heap[k]? = w.heap[k]? := by
  rw [Below.heap_setCell _ _ _ _ hk, Below.heap_setCell _ _ _ _ hk, Below.heap_setCell _ _ _ _ hk, Below.heap_setCell _ _ _ _ hk]
theorem store4_below {B : Nat} {w0 w : World} {b : Nat} (h : Below B w0 w) (hb : B ≤ b) (u0 u1 u2 u3 : Value) : Below B w0 ((((w.setCell ⟨b, 0, none⟩ u0).setCell ⟨b, 1, none⟩ u1).setCell ⟨b, 2, none⟩ u2).setCell ⟨b, 3, none⟩ u3) :=
  (((h.setCell (p := ⟨b, 0, none⟩) hb _).setCell (p := ⟨b, 1, none⟩) hb _).setCell (p := ⟨b, 2, none⟩) hb _).setCell (p := ⟨b, 3, none⟩) hb _

set_option maxRecDepth 100000 in
set_option maxHeartbeats 8000000 in
theorem rrules_any (a : Option Addr) (cap : Nat) (L : List Tok) (w : World) (h : Cells w a (tall L)) (hl : L.length ≤ 1000000) (hE : EndsOk L) :
    Calls Tryd.prog 63 #[.slice a L.length cap] w fun e w' => Below w.heap.size w w' ∧ RulesEnd w.heap.size L e w' := by
  obtain ⟨i0, hi0, hz0, hz1, hz2⟩ := info_of infoTk
  obtain ⟨i1, hi1, hy0, hy1, hy2⟩ := info_of infoRu
  have HE := Lib.hid hE
  have hS : Below w.heap.size w (w.alloc (.cells #[.int .i64 0, .string ⟨#[]⟩, .int .i64 0, .int .i64 0] 102)) := (Below.refl _ _).alloc (Nat.le_refl _) _
  have HC := Lib.hid (h.below hS)
  have HQ := Lib.hid (heap_alloc_new w (.cells #[.int .i64 0, .string ⟨#[]⟩, .int .i64 0, .int .i64 0] 102))
  have HS := Lib.hid hS
  have hsz0 : (w.alloc (.cells #[.int .i64 0, .string ⟨#[]⟩, .int .i64 0, .int .i64 0] 102)).heap.size = w.heap.size + 1 := by simp
  have HZ := Lib.hid hsz0
  clear h hS hE hsz0
  go_enter Tryd.func63, Tryd.ntmps63
  go_wp2
  generalize w.alloc (.cells #[.int .i64 0, .string ⟨#[]⟩, .int .i64 0, .int .i64 0] 102) = S at *
  generalize hB0 : w.heap.size = B0 at *
  have HB0 := Lib.hid hB0
  clear hB0
  have hB0 := heap_lt HQ.out
  go_loopw [5, 6] (fun v i wr => ∃ (k : Nat) (rs : List RuL) (oa : Option Addr) (oc : Nat), k ≤ L.length ∧ i = .int .i64 k ∧ v = .slice oa rs.length oc ∧ rs.length ≤ k ∧ Hid (wr.ownsRow (B0 + 1) 106 5 (.slice oa rs.length oc) rs.length (ruAll rs)) ∧
    Hid (∀ r ∈ rs, wr.ownsRow (B0 + 1) 102 4 (.slice r.addr r.rest.length r.cap) r.rest.length (tall r.rest)) ∧ Below (B0 + 1) S wr ∧ Hid (ruleF L .start = (rs.map RuL.plain ++ (ruleF (L.drop k) .start).1, (ruleF (L.drop k) .start).2))) (fun _ i _ => L.length - (intOf i).toNat)
  case atStart => exact ⟨0, [], none, 0, by omega, rfl, rfl, by simp, Lib.hid (World.ownsRow_nil _ _ _ _), Lib.hid (by intro r hr; cases hr), Below.refl _ _, Lib.hid (by simp)⟩
  case round =>
    obtain ⟨k, rs, oa, oc, hk, rfl, rfl, hrk, HO, HR, hbe, HF⟩ := hrel
    have q0 := (hbe.block B0 (Nat.lt_succ_self _)).trans HQ.out
    have hBr := heap_lt q0
    by_cases hlt : k < L.length
    · obtain ⟨t, ht⟩ : ∃ t, L[k]? = some t := ⟨_, List.getElem?_eq_getElem hlt⟩
      obtain ⟨tk, tt, tln, tc⟩ := t
      have hd := drop_cons ht
      obtain ⟨b, off, hab, hbl, hc⟩ := (HC.out.below (w' := wr) (by rw [HZ.out]; exact hbe)).get (tall_nil_iff (by omega))
      subst hab
      have HTC := Lib.hid hc
      obtain ⟨c0, c1, c2, c3⟩ := tok_cells hc ht
      simp only at c0 c1 c2 c3
      have e1 : (k : Int) < L.length := by omega
      have QW := q0
      have HBW := Lib.hid (HS.out.trans (hbe.mono (Nat.le_succ _)))
      have hkn : k + 1 ≤ L.length := by omega
      by_cases h5 : tk = 5
      · have hF2 := Lib.hid (show ruleF L .start = (rs.map RuL.plain ++ (ruleF (L.drop (k + 1)) .start).1, (ruleF (L.drop (k + 1)) .start).2) by
          rw [HF.out, hd]; simp only [ruleF]; rw [if_pos h5])
        have HBE := Lib.hid hbe
        have h5b : ((tk : Int) == 5) = true := by simp [h5]
        clear hc ht hd h5 hbe
        go_wp2
        exact ⟨⟨k + 1, rs, oa, oc, by omega, by go_num, rfl, by omega, HO, HR, HBE.out, hF2⟩, by simp [intOf]; omega⟩
      · have h5b : ((tk : Int) == 5) = false := by simp; omega
        have hnl : k + 1 < L.length := not_last HE.out ht h5
        by_cases h1 : tk = 1
        · have h1b : ((tk : Int) != 1) = false := by simp [h1]
          obtain ⟨t2, ht2⟩ : ∃ t2, L[k + 1]? = some t2 := ⟨_, List.getElem?_eq_getElem hnl⟩
          obtain ⟨uk, ut, ul, uc⟩ := t2
          have hd2 := drop_cons ht2
          obtain ⟨d0, d1, d2, d3⟩ := tok_cells hc ht2
          simp only at d0 d1 d2 d3
          have e2 : (k : Int) + 1 < L.length := by omega
          have e3 : (0 : Int) ≤ (k : Int) + 1 := by omega
          have e4 : ((k : Int) + 1).toNat = k + 1 := by omega
          by_cases h3 : uk = 3
          · skip
            have hF2 := Lib.hid (show ruleF L .start = (rs.map RuL.plain ++ (ruleF (L.drop (k + 2)) (.parts ⟨tk, tt, tln, tc⟩ [])).1, (ruleF (L.drop (k + 2)) (.parts ⟨tk, tt, tln, tc⟩ [])).2) by
              rw [HF.out, hd]; simp only [ruleF]; rw [if_neg h5, if_pos h1, hd2]; simp only [ruleF]; rw [if_pos h3])
            have h3b : ((uk : Int) != 3) = false := by simp [h3]
            have hnl2 : k + 1 + 1 < L.length := not_last HE.out ht2 (by simp; omega)
            have hBX : Below wr.heap.size wr (wr.alloc (.cells #[.int .i64 tk, .string ⟨tt.toArray⟩, .int .i64 tln, .int .i64 tc, .slice none 0 0] 106)) := (Below.refl _ _).alloc (Nat.le_refl _) _
            have hqP := heap_alloc_new wr (.cells #[.int .i64 tk, .string ⟨tt.toArray⟩, .int .i64 tln, .int .i64 tc, .slice none 0 0] 106)
            have HBE := Lib.hid hbe
            have HBX := Lib.hid hBX
            have HQP := Lib.hid hqP
            have HQ0 := Lib.hid q0
            have HH1 := Lib.hid (And.intro h5 h1)
            clear hc ht ht2 hd hd2 h5 h1 h3 hbe q0 QW hBX hqP
            go_wp2
            clear c0 c1 c2 c3 d0 d1 d2 d3
            generalize wr.alloc (.cells #[.int .i64 tk, .string ⟨tt.toArray⟩, .int .i64 tln, .int .i64 tc, .slice none 0 0] 106) = S2 at *
            generalize hPP : wr.heap.size = P at *
            have HPP := Lib.hid hPP
            clear hPP
            go_loopw [6] (fun i wq => ∃ (j : Nat) (ra : Option Addr) (r : List Tok) (rc : Nat), k + 2 ≤ j ∧ j < L.length ∧ i = .int .i64 j ∧ r.length + (k + 2) = j ∧ wq.heap[P]? = some (.cells #[.int .i64 tk, .string ⟨tt.toArray⟩, .int .i64 tln, .int .i64 tc, .slice ra r.length rc] 106) ∧
              Hid (wq.ownsRow (P + 1) 102 4 (.slice ra r.length rc) r.length (tall r)) ∧ Below P S2 wq ∧ Hid (ruleF (L.drop (k + 2)) (.parts ⟨tk, tt, tln, tc⟩ []) = ruleF (L.drop j) (.parts ⟨tk, tt, tln, tc⟩ r))) (fun i _ => L.length - (intOf i).toNat)
            case atStart => exact ⟨k + 2, none, [], 0, by omega, by omega, by go_num, by simp, HQP.out, Lib.hid (World.ownsRow_nil _ _ _ _), Below.refl _ _, Lib.hid rfl⟩
            case round =>
              rename World => wq
              obtain ⟨j, ra, r, rc, hj1, hj2, rfl, hrj, qP, HRO, hbq, HFJ⟩ := hrel
              obtain ⟨u, hu⟩ : ∃ u, L[j]? = some u := ⟨_, List.getElem?_eq_getElem hj2⟩
              obtain ⟨vk, vt, vl, vc⟩ := u
              have hd3 := drop_cons hu
              have hBQ : Below (B0 + 1) S wq := HBE.out.trans ((HBX.out.mono (by omega)).trans (hbq.mono (by omega)))
              obtain ⟨b', off', hab', hbl', hc'⟩ := (HC.out.below (w' := wq) (by rw [HZ.out]; exact hBQ)).get (tall_nil_iff (by omega))
              obtain ⟨rfl, rfl⟩ : b' = b ∧ off' = off := by simp only [Option.some.injEq, Addr.mk.injEq] at hab'; exact ⟨hab'.1.symm, hab'.2.1.symm⟩
              obtain ⟨g0, g1, g2, g3⟩ := tok_cells hc' hu
              simp only at g0 g1 g2 g3
              have e5 : (j : Int) < L.length := by omega
              have lP := heap_lt qP
              have y4 := (blk_cell (i := 4) (u := .slice ra r.length rc) qP rfl).1
              have QW := (hbq.block B0 (by omega)).trans ((HBX.out.block B0 (by omega)).trans HQ0.out)
              have HBQ := Lib.hid hBQ
              have HBQP := Lib.hid hbq
              have HBWQ := Lib.hid (HS.out.trans (hBQ.mono (Nat.le_succ _)))
              by_cases h3 : vk = 3
              · have h3b' : ((vk : Int) == 3) = true := by simp [h3]
                have hF3 := Lib.hid (show (ruleF L .start).2 = some ⟨vk, vt, vl, vc⟩ by
                  rw [hF2.out]; show (ruleF _ _).2 = _; rw [HFJ.out, hd3]; simp only [ruleF]; rw [if_pos h3])
                clear hc' hu hd3 hBQ hbq h3 hab'
                obtain ⟨v0, z0⟩ := blk_cell (i := 0) (u := .int .i64 0) QW rfl
                obtain ⟨v1, z1⟩ := blk_cell (i := 1) (u := .string ⟨#[]⟩) QW rfl
                obtain ⟨v2, z2⟩ := blk_cell (i := 2) (u := .int .i64 0) QW rfl
                obtain ⟨v3, z3⟩ := blk_cell (i := 3) (u := .int .i64 0) QW rfl
                have HQW := Lib.hid QW
                clear QW
                go_wp2
                go_region
                all_goals
                  go_wp2
                  (try simp only [Exit.inBlock, Exit.then])
                  refine bodyPost_ret (v := .tuple #[.slice none 0 0, .agg #[.int .i64 vk, .string ⟨vt.toArray⟩, .int .i64 vl, .int .i64 vc], .bool false]) ?_ rfl ⟨?_, ?_⟩
                  · exact results_tct (p0 := 2) (p1 := 3) (p2 := 4) rfl rfl (run_loadVar_row _ B0 102 102 _ (0, 0) _ (store4 (w := wq.drew) HQW.out _ _ _ _) Tryd.underlying102 rfl (by kernel_rfl))
                  · rw [HB0.out]; exact store4_below HBWQ.out.drew (Nat.le_refl _) _ _ _ _
                  · unfold RulesEnd
                    rw [hF3.out]
              · have h3b' : ((vk : Int) == 3) = false := by simp; omega
                have HKIND := Lib.hid h3
                have HD3 := Lib.hid hd3
                have HUU := Lib.hid hu
                clear hc' hd3 hBQ hbq h3 hab' hu QW
                go_wp2
                go_region_law (first
                  | (refine step_append_lies _ (by rfl) _ _ _ (by rfl) (P + 1) 102 i0 _ 4 40 Tryd.underlying97 hi0 hz0 hz1 hz2 rfl (by omega) _ r.length (tall r) (by rfl) (HRO.out.drew.alloc _) ⟨wq.heap.size, 0, none⟩ 1 1 [.int .i64 vk, .string ⟨vt.toArray⟩, .int .i64 vl, .int .i64 vc] (by rfl) (by rfl) (World.news_of_block (cs := #[.int .i64 vk, .string ⟨vt.toArray⟩, .int .i64 vl, .int .i64 vc]) (t := 102) (fr := (0, 0)) (heap_alloc_new wq.drew _)) (by simp [Value.oneCell']) (by omega) (by unfold maxLen; omega) (by omega) (by simp; omega) (wq.heap.size + 1) (by simp) ?_
                     intro g cap4 w4 hown4 hgrow4 hat4 hlt4
                     have q4 := (hgrow4.block P (by simp; omega) (by intro e; have := (own_block HRO.out e.symm).1; omega)).trans ((Below.heap_alloc wq.drew _ P lP).trans qP)
                     obtain ⟨c84, z84⟩ := blk_cell (i := 4) (u := .slice ra r.length rc) q4 rfl
                     have lP4 := heap_lt q4))
                all_goals
                  have hq5 := (heap_set w4 P 4 (.slice (some ⟨g, 0, none⟩) (r.length + 1) cap4) _ _ q4 (by simp)).trans (show _ = some (Obj.cells #[.int .i64 tk, .string ⟨tt.toArray⟩, .int .i64 tln, .int .i64 tc, .slice (some ⟨g, 0, none⟩) (r ++ [(⟨vk, vt, vl, vc⟩ : Tok)]).length cap4] 106) by simp)
                  have hown5 : (w4.setCell ⟨P, 4, none⟩ (.slice (some ⟨g, 0, none⟩) (r.length + 1) cap4)).ownsRow (P + 1) 102 4 (.slice (some ⟨g, 0, none⟩) (r ++ [(⟨vk, vt, vl, vc⟩ : Tok)]).length cap4) (r ++ [(⟨vk, vt, vl, vc⟩ : Tok)]).length (tall (r ++ [⟨vk, vt, vl, vc⟩])) := by
                    rw [tall_snoc, List.length_append]
                    exact own_same hown4 fun k hk _ => Below.heap_setCell _ _ _ _ (by have := (own_block hown4 hk).1; show k ≠ P; omega)
                  have hb5 : Below P S2 (w4.setCell ⟨P, 4, none⟩ (.slice (some ⟨g, 0, none⟩) (r.length + 1) cap4)) :=
                    ((HBQP.out.drew.alloc (Nat.le_of_lt lP) _).grown hgrow4 (by simp; omega) (fun x hx => by have := (own_block HRO.out hx).1; omega)).setCell (p := ⟨P, 4, none⟩) (Nat.le_refl _) _
                  have hB5 : Below (B0 + 1) S (w4.setCell ⟨P, 4, none⟩ (.slice (some ⟨g, 0, none⟩) (r.length + 1) cap4)) := HBE.out.trans ((HBX.out.mono (by omega)).trans (hb5.mono (by omega)))
                  obtain ⟨bq, oq, hbo, hblq, hcq⟩ := (HC.out.below (by rw [HZ.out]; exact hB5)).get (tall_nil_iff (by omega))
                  obtain ⟨rfl, rfl⟩ : bq = b' ∧ oq = off' := by simp only [Option.some.injEq, Addr.mk.injEq] at hbo; exact ⟨hbo.1.symm, hbo.2.1.symm⟩
                  have hg5 := (tok_cells hcq HUU.out).1
                  simp only at hg5
                  have HO5 := Lib.hid (own_same HO.out (fun g _ hl => (hb5.block g (HPP.out ▸ hl)).trans (HBX.out.block g (HPP.out ▸ hl))))
                  have HR5 := Lib.hid (fun r0 hr0 => own_same (HR.out r0 hr0) (fun g _ hl => (hb5.block g (HPP.out ▸ hl)).trans (HBX.out.block g (HPP.out ▸ hl))))
                  have HQ5 := Lib.hid hq5
                  have HW5 := Lib.hid hown5
                  have HB5 := Lib.hid hb5
                  have HBB5 := Lib.hid hB5
                  have z5 := (blk_cell (i := 0) (u := .int .i64 tk) hq5 rfl).1
                  have z6 := (blk_cell (i := 1) (u := .string ⟨tt.toArray⟩) hq5 rfl).1
                  have z7 := (blk_cell (i := 2) (u := .int .i64 tln) hq5 rfl).1
                  have z8 := (blk_cell (i := 3) (u := .int .i64 tc) hq5 rfl).1
                  have z9 := (blk_cell (i := 4) (u := .slice (some ⟨g, 0, none⟩) (r.length + 1) cap4) (hq5.trans (by simp : _ = some (Obj.cells #[.int .i64 tk, .string ⟨tt.toArray⟩, .int .i64 tln, .int .i64 tc, .slice (some ⟨g, 0, none⟩) (r.length + 1) cap4] 106))) rfl).1
                  have lP5 := heap_lt hq5
                  clear hq5 hown5 hb5 hB5 hcq hbo hblq hown4 hgrow4 hat4 hlt4 q4 c84 z84 lP4 y4 qP HRO g0 g1 g2 g3 hbl'
                  generalize w4.setCell ⟨P, 4, none⟩ (.slice (some ⟨g, 0, none⟩) (r.length + 1) cap4) = w5 at *
                  by_cases h5 : vk = 5
                  · have h5b' : ((vk : Int) == 5) = true := by simp [h5]
                    have hF3 := Lib.hid (show ruleF L .start = ((rs ++ [(⟨⟨tk, tt, tln, tc⟩, r ++ [⟨vk, vt, vl, vc⟩], some ⟨g, 0, none⟩, cap4⟩ : RuL)]).map RuL.plain ++ (ruleF (L.drop (j + 1)) .start).1, (ruleF (L.drop (j + 1)) .start).2) by
                      rw [hF2.out, HFJ.out, HD3.out]; simp only [ruleF]; rw [if_neg HKIND.out, if_pos h5]; simp [RuL.plain])
                    clear h5
                    go_wp2_with (at_builtin; refine wpList_append_lies _ rfl (.tmp 76) (.tmp 78) 100 rfl (B0 + 1) 106 i1 (.agg #[.int .i64 0, .string ⟨#[]⟩, .int .i64 0, .int .i64 0, .slice none 0 0]) 5 64 Tryd.underlying100 hi1 hy0 hy1 hy2 rfl (by decide) _ rs.length (ruAll rs) rfl (HO5.out.alloc _) ⟨w5.heap.size, 0, none⟩ 1 1 [.int .i64 tk, .string ⟨tt.toArray⟩, .int .i64 tln, .int .i64 tc, .slice (some ⟨g, 0, none⟩) (r.length + 1) cap4] rfl rfl (World.news_of_block (cs := #[.int .i64 tk, .string ⟨tt.toArray⟩, .int .i64 tln, .int .i64 tc, .slice (some ⟨g, 0, none⟩) (r.length + 1) cap4]) (t := 106) (fr := (0, 0)) (heap_alloc_new w5 _)) (by simp [Value.oneCell']) (by decide) (by unfold maxLen; omega) (by omega) (by simp; omega) w5.heap.size.succ (by simp) ?_; intro g6 cap6 w6 hown6 hgrow6 hat6 hlt6; have HO6 := Lib.hid hown6; have HG6 := Lib.hid hgrow6; clear hown6 hgrow6 hat6 hlt6)
                    have hle5 : B0 + 1 ≤ w5.heap.size := by omega
                    have ho6 : w6.ownsRow (B0 + 1) 106 5 (.slice (some ⟨g6, 0, none⟩) (rs ++ [(⟨⟨tk, tt, tln, tc⟩, r ++ [⟨vk, vt, vl, vc⟩], some ⟨g, 0, none⟩, cap4⟩ : RuL)]).length cap6) (rs ++ [(⟨⟨tk, tt, tln, tc⟩, r ++ [⟨vk, vt, vl, vc⟩], some ⟨g, 0, none⟩, cap4⟩ : RuL)]).length (ruAll (rs ++ [⟨⟨tk, tt, tln, tc⟩, r ++ [⟨vk, vt, vl, vc⟩], some ⟨g, 0, none⟩, cap4⟩])) := by
                      rw [ruAll_snoc, List.length_append]
                      have h := HO6.out
                      simpa [ruCells, tcells] using h
                    have hr6 : ∀ r0 ∈ rs ++ [(⟨⟨tk, tt, tln, tc⟩, r ++ [⟨vk, vt, vl, vc⟩], some ⟨g, 0, none⟩, cap4⟩ : RuL)], w6.ownsRow (B0 + 1) 102 4 (.slice r0.addr r0.rest.length r0.cap) r0.rest.length (tall r0.rest) := fun r0 hr0 => by
                      rcases List.mem_append.1 hr0 with hr0 | hr0
                      · exact own_other ((HR5.out r0 hr0).alloc _) HG6.out (HO5.out.alloc _) (by decide)
                      · rw [List.mem_singleton.1 hr0]
                        exact own_other ((own_base' HW5.out (show B0 + 1 ≤ P + 1 by omega)).alloc _) HG6.out (HO5.out.alloc _) (by decide)
                    have hb6 : Below (B0 + 1) S w6 := (HBB5.out.alloc hle5 _).grown HG6.out (by simp; omega) (fun x hx => by have := (own_block HO5.out hx).1; omega)
                    exact ⟨⟨j + 1, rs ++ [⟨⟨tk, tt, tln, tc⟩, r ++ [⟨vk, vt, vl, vc⟩], some ⟨g, 0, none⟩, cap4⟩], some ⟨g6, 0, none⟩, cap6, by omega, by go_num, by simp, by simp; omega, Lib.hid ho6, Lib.hid hr6, hb6, hF3⟩, by simp [intOf]; omega⟩
                  · have h5b' : ((vk : Int) == 5) = false := by simp; omega
                    have hnl3 : j + 1 < L.length := not_last HE.out HUU.out h5
                    have hF3 := Lib.hid (show ruleF (L.drop (k + 2)) (.parts ⟨tk, tt, tln, tc⟩ []) = ruleF (L.drop (j + 1)) (.parts ⟨tk, tt, tln, tc⟩ (r ++ [⟨vk, vt, vl, vc⟩])) by
                      rw [HFJ.out, HD3.out]; simp only [ruleF]; rw [if_neg HKIND.out, if_neg h5])
                    clear h5
                    go_wp2
                    exact ⟨⟨j + 1, some ⟨g, 0, none⟩, r ++ [⟨vk, vt, vl, vc⟩], cap4, by omega, hnl3, by go_num, by simp; omega, HQ5.out, HW5, HB5.out, hF3⟩, by simp [intOf]; omega⟩
          · have h3b : ((uk : Int) != 3) = true := by simp; omega
            have hF2 := Lib.hid (show (ruleF L .start).2 = some ⟨uk, ut, ul, uc⟩ by
              rw [HF.out, hd]; simp only [ruleF]; rw [if_neg h5, if_pos h1, hd2]; simp only [ruleF]; rw [if_neg h3])
            clear hc ht ht2 hd hd2 h5 h1 h3 hbe q0
            obtain ⟨v0, z0⟩ := blk_cell (i := 0) (u := .int .i64 0) QW rfl
            obtain ⟨v1, z1⟩ := blk_cell (i := 1) (u := .string ⟨#[]⟩) QW rfl
            obtain ⟨v2, z2⟩ := blk_cell (i := 2) (u := .int .i64 0) QW rfl
            obtain ⟨v3, z3⟩ := blk_cell (i := 3) (u := .int .i64 0) QW rfl
            have HQW := Lib.hid QW
            clear QW
            go_wp2
            go_region
            all_goals
              go_wp2
              (try simp only [Exit.inBlock, Exit.then])
              refine bodyPost_ret (v := .tuple #[.slice none 0 0, .agg #[.int .i64 uk, .string ⟨ut.toArray⟩, .int .i64 ul, .int .i64 uc], .bool false]) ?_ rfl ⟨?_, ?_⟩
              · exact results_tct (p0 := 2) (p1 := 3) (p2 := 4) rfl rfl (run_loadVar_row _ B0 102 102 _ (0, 0) _ (store4 (w := wr.drew) HQW.out _ _ _ _) Tryd.underlying102 rfl (by kernel_rfl))
              · rw [HB0.out]; exact store4_below HBW.out.drew (Nat.le_refl _) _ _ _ _
              · unfold RulesEnd
                rw [hF2.out]
        · have h1b : ((tk : Int) != 1) = true := by simp; omega
          have hF2 := Lib.hid (show (ruleF L .start).2 = some ⟨tk, tt, tln, tc⟩ by
            rw [HF.out, hd]; simp only [ruleF]; rw [if_neg h5, if_neg h1])
          clear hc ht hd h5 h1 hbe q0
          obtain ⟨v0, z0⟩ := blk_cell (i := 0) (u := .int .i64 0) QW rfl
          obtain ⟨v1, z1⟩ := blk_cell (i := 1) (u := .string ⟨#[]⟩) QW rfl
          obtain ⟨v2, z2⟩ := blk_cell (i := 2) (u := .int .i64 0) QW rfl
          obtain ⟨v3, z3⟩ := blk_cell (i := 3) (u := .int .i64 0) QW rfl
          have HQW := Lib.hid QW
          clear QW
          go_wp2
          go_region
          all_goals
            go_wp2
            (try simp only [Exit.inBlock, Exit.then])
            refine bodyPost_ret (v := .tuple #[.slice none 0 0, .agg #[.int .i64 tk, .string ⟨tt.toArray⟩, .int .i64 tln, .int .i64 tc], .bool false]) ?_ rfl ⟨?_, ?_⟩
            · exact results_tct (p0 := 2) (p1 := 3) (p2 := 4) rfl rfl (run_loadVar_row _ B0 102 102 _ (0, 0) _ (store4 (w := wr.drew) HQW.out _ _ _ _) Tryd.underlying102 rfl (by kernel_rfl))
            · rw [HB0.out]; exact store4_below HBW.out.drew (Nat.le_refl _) _ _ _ _
            · unfold RulesEnd
              rw [hF2.out]
    · have e1 : ¬ (k : Int) < L.length := by omega
      have hF2 := Lib.hid (show ruleF L .start = (rs.map RuL.plain, none) by rw [HF.out, List.drop_of_length_le (by omega)]; simp [ruleF])
      have QW := q0
      have HBW := Lib.hid (HS.out.trans (hbe.mono (Nat.le_succ _)))
      obtain ⟨v0, z0⟩ := blk_cell (i := 0) (u := .int .i64 0) QW rfl
      obtain ⟨v1, z1⟩ := blk_cell (i := 1) (u := .string ⟨#[]⟩) QW rfl
      obtain ⟨v2, z2⟩ := blk_cell (i := 2) (u := .int .i64 0) QW rfl
      obtain ⟨v3, z3⟩ := blk_cell (i := 3) (u := .int .i64 0) QW rfl
      have HQW := Lib.hid QW
      clear QW q0 hbe
      go_wp2
      (try simp only [Exit.inBlock, Exit.then])
      refine bodyPost_ret (v := .tuple #[.slice oa rs.length oc, .agg #[.int .i64 0, .string ⟨#[]⟩, .int .i64 0, .int .i64 0], .bool true]) ?_ rfl ⟨?_, ?_⟩
      · exact results_tct (p0 := 2) (p1 := 3) (p2 := 4) rfl rfl (run_loadVar_row _ B0 102 102 _ (0, 0) _ (store4 (w := wr) HQW.out _ _ _ _) Tryd.underlying102 rfl (by kernel_rfl))
      · exact HB0.out ▸ store4_below (HB0.out ▸ HBW.out : Below B0 w wr) (Nat.le_refl B0) _ _ _ _
      · unfold RulesEnd
        rw [hF2.out]
        exact ⟨rs, oa, oc, rfl, rfl, own_base' (own_same HO.out (fun g hg _ => by have := (own_block HO.out hg).1; exact far4 _ _ _ _ (by omega))) (by rw [HB0.out]; omega), fun r hr => own_base' (own_same (HR.out r hr) (fun g hg _ => by have := (own_block (HR.out r hr) hg).1; exact far4 _ _ _ _ (by omega))) (by rw [HB0.out]; omega)⟩

end Go.Proofs.YtejjdfmobiegdaaDoor

namespace Go.Proofs.YtejjdfmobiegdaaDoor
open Go.RowKit
open Doc

/-- The grammar's block b; the rule's copy R; the part's production P, its row from F on; where the part begins: A. -/
structure PSt (b R P A F : Nat) (w : World) (ts ns : List (List UInt8)) (ls : List Lay) (at_ an ap : Option Addr) (ct cn cp : Nat) (RC : Array Value) (left : Int) (ra : Option Addr) (r : List Int) (rc : Nat) (bt : Tok) : Prop where
  g : GBlk b (b + 1) w ts ns ls at_ an ap ct cn cp
  qR : w.heap[R]? = some (.cells RC 106)
  qP : w.heap[P]? = some (.cells #[.int .i64 left, .slice ra r.length rc] 68)
  qA : w.heap[A]? = some (.cells #[.int .i64 bt.kind, .string ⟨bt.text.toArray⟩, .int .i64 bt.line, .int .i64 bt.col] 102)
  ow : w.ownsRow F 3 1 (.slice ra r.length rc) r.length (nums r)
  bR : b < R
  RP : R < P
  PA : P < A
  AF : A < F
  le : F ≤ w.heap.size
  o2 : ∀ q ∈ ls, ∀ g, (Value.slice q.addr q.right.length q.cap).ownBlock = some g → g < F
  o3 : (Value.slice ap ls.length cp).ownBlock ≠ some P

section
variable {b R P A F : Nat} {w : World} {ts ns : List (List UInt8)} {ls : List Lay} {at_ an ap : Option Addr} {ct cn cp : Nat} {RC : Array Value} {left : Int} {ra : Option Addr} {r : List Int} {rc : Nat} {bt : Tok}

theorem PSt.below (h : PSt b R P A F w ts ns ls at_ an ap ct cn cp RC left ra r rc bt) {w' : World} (hb : Below w.heap.size w w') : PSt b R P A F w' ts ns ls at_ an ap ct cn cp RC left ra r rc bt :=
  ⟨h.g.below hb, (hb.block _ (heap_lt h.qR)).trans h.qR, (hb.block _ (heap_lt h.qP)).trans h.qP, (hb.block _ (heap_lt h.qA)).trans h.qA, own_same h.ow (fun g _ hl => hb.block g hl), h.bR, h.RP, h.PA, h.AF, Nat.le_trans h.le hb.size, h.o2, h.o3⟩

theorem blk_ne {w : World} {B e size n : Nat} {v : Value} {xs : List Value} (ho : w.ownsRow B e size v n xs) {k : Nat} {cs : Array Value} {T : TypeId} (hk : w.heap[k]? = some (.cells cs T)) (hT : T ≠ e) : v.ownBlock ≠ some k := by
  intro h
  obtain ⟨_, _, cur, hc⟩ := own_block ho h
  rw [hk] at hc
  cases hc
  exact hT rfl

/-- The part's row grows by a symbol. -/
theorem PSt.row (h : PSt b R P A F w ts ns ls at_ an ap ct cn cp RC left ra r rc bt) {g cap4 : Nat} {w4 : World} {x : Int} (hown : w4.ownsRow F 3 1 (.slice (some ⟨g, 0, none⟩) (r.length + 1) cap4) (r.length + 1) (nums r ++ [.int .i64 x])) (hgrow : w.grownBy w4 (Value.slice ra r.length rc).ownBlock) :
    PSt b R P A F (w4.setCell ⟨P, 1, none⟩ (.slice (some ⟨g, 0, none⟩) (r.length + 1) cap4)) ts ns ls at_ an ap ct cn cp RC left (some ⟨g, 0, none⟩) (r ++ [x]) cap4 bt := by
  obtain ⟨hbR, hRP, hPA, hAF⟩ := And.intro h.bR (And.intro h.RP (And.intro h.PA h.AF))
  have hlow : ∀ k, k < F → k ≠ P → (w4.setCell ⟨P, 1, none⟩ (.slice (some ⟨g, 0, none⟩) (r.length + 1) cap4)).heap[k]? = w.heap[k]? := fun k hk hne => by
    rw [Below.heap_setCell _ _ _ _ hne]
    exact hgrow.block k (Nat.lt_of_lt_of_le hk h.le) (fun e => by have := (own_block h.ow e.symm).1; omega)
  have q4 : w4.heap[P]? = some (.cells #[.int .i64 left, .slice ra r.length rc] 68) := (hgrow.block P (heap_lt h.qP) (fun e => by have := (own_block h.ow e.symm).1; omega)).trans h.qP
  have keep : ∀ {B e size n : Nat} {v : Value} {xs : List Value}, w.ownsRow B e size v n xs → v.ownBlock ≠ some P → e ≠ 3 → (w4.setCell ⟨P, 1, none⟩ (.slice (some ⟨g, 0, none⟩) (r.length + 1) cap4)).ownsRow B e size v n xs := fun ho hne he =>
    own_same ho fun k hk hl => by
      rw [Below.heap_setCell _ _ _ _ (show k ≠ P from fun e => hne (e ▸ hk))]
      exact hgrow.block k hl (fun e => own_apart ho h.ow he hk e.symm)
  refine ⟨⟨(hlow b (by omega) (by omega)).trans h.g.blk, ⟨keep h.g.rws.t (blk_ne h.g.rws.t h.qP (by decide)) (by decide), keep h.g.rws.n (blk_ne h.g.rws.n h.qP (by decide)) (by decide), keep h.g.rws.p h.o3 (by decide), fun q hq => own_same (h.g.rws.r q hq) fun k hk _ => hlow k (h.o2 q hq k hk) (fun e => blk_ne (h.g.rws.r q hq) h.qP (by decide) (e ▸ hk)), h.g.rws.d⟩, h.g.lt, ?_⟩, (hlow R (by omega) (by omega)).trans h.qR, ?_, (hlow A (by omega) (by omega)).trans h.qA, ?_, h.bR, h.RP, h.PA, h.AF, ?_, h.o2, h.o3⟩
  · have := h.g.le; have := hgrow.size; simp; omega
  · have e : (r ++ [x]).length = r.length + 1 := by simp
    rw [e, heap_set w4 P 1 _ _ _ q4 (by simp)]; simp
  · have e : (r ++ [x]).length = r.length + 1 := by simp
    have e2 : nums (r ++ [x]) = nums r ++ [.int .i64 x] := by simp [nums]
    rw [e, e2]
    exact own_same hown fun k hk _ => Below.heap_setCell _ _ _ _ (by have := (own_block hown hk).1; show k ≠ P; omega)
  · have := h.le; have := hgrow.size; simp; omega

/-- One terminal more. -/
theorem PSt.term (h : PSt b R P A F w ts ns ls at_ an ap ct cn cp RC left ra r rc bt) {g cap4 : Nat} {w4 : World} {x : List UInt8} (hown : w4.ownsRow (b + 1) 9 1 (.slice (some ⟨g, 0, none⟩) (ts.length + 1) cap4) (ts.length + 1) (strs ts ++ [.string ⟨x.toArray⟩])) (hgrow : w.grownBy w4 (Value.slice at_ ts.length ct).ownBlock)
    (hat : (Value.slice at_ ts.length ct).ownBlock = some g ∨ w.heap.size ≤ g) :
    PSt b R P A F (w4.setCell ⟨b, 0, none⟩ (.slice (some ⟨g, 0, none⟩) (ts.length + 1) cap4)) (ts ++ [x]) ns ls (some ⟨g, 0, none⟩) an ap cap4 cn cp RC left ra r rc bt := by
  obtain ⟨hbR, hRP, hPA, hAF⟩ := And.intro h.bR (And.intro h.RP (And.intro h.PA h.AF))
  have hput := h.g.rws.put_t hown hgrow hat
  have blk : ∀ {k : Nat} {cs : Array Value} {T : TypeId}, w.heap[k]? = some (.cells cs T) → T ≠ 9 → k ≠ b → (w4.setCell ⟨b, 0, none⟩ (.slice (some ⟨g, 0, none⟩) (ts.length + 1) cap4)).heap[k]? = some (.cells cs T) := fun hk hT hne => by
    rw [Below.heap_setCell _ _ _ _ hne]
    exact (hgrow.block _ (heap_lt hk) (fun e => blk_ne h.g.rws.t hk hT e.symm)).trans hk
  have q4 : w4.heap[b]? = some (.cells #[.slice at_ ts.length ct, .slice an ns.length cn, .slice ap ls.length cp] 29) := (hgrow.block b (heap_lt h.g.blk) (fun e => blk_ne h.g.rws.t h.g.blk (by decide) e.symm)).trans h.g.blk
  refine ⟨⟨?_, hput.set b 0 (Nat.lt_succ_self b) _, h.g.lt, ?_⟩, blk h.qR (by decide) (by omega), blk h.qP (by decide) (by omega), blk h.qA (by decide) (by omega), ?_, h.bR, h.RP, h.PA, h.AF, ?_, h.o2, h.o3⟩
  · rw [heap_set w4 b 0 _ _ _ q4 (by simp)]; simp
  · have := h.g.le; have := hgrow.size; simp; omega
  · exact own_same (own_other h.ow hgrow h.g.rws.t (by decide)) fun k hk _ => Below.heap_setCell _ _ _ _ (by have := (own_block h.ow hk).1; show k ≠ b; omega)
  · have := h.le; have := hgrow.size; simp; omega

/-- One production more; the part begins anew. -/
theorem PSt.prod (h : PSt b R P A F w ts ns ls at_ an ap ct cn cp RC left ra r rc bt) {g cap4 : Nat} {w4 : World} (hown : w4.ownsRow (b + 1) 68 2 (.slice (some ⟨g, 0, none⟩) (ls.length + 1) cap4) (ls.length + 1) (lays ls ++ [.int .i64 left, .slice ra r.length rc])) (hgrow : w.grownBy w4 (Value.slice ap ls.length cp).ownBlock)
    (hat : (Value.slice ap ls.length cp).ownBlock = some g ∨ w.heap.size ≤ g) :
    PSt b R P A w4.heap.size (((w4.setCell ⟨b, 2, none⟩ (.slice (some ⟨g, 0, none⟩) (ls.length + 1) cap4)).setCell ⟨P, 0, none⟩ (.int .i64 left)).setCell ⟨P, 1, none⟩ (.slice none 0 0)) ts ns (ls ++ [⟨left, r, ra, rc⟩]) at_ an (some ⟨g, 0, none⟩) ct cn cap4 RC left none [] 0 bt := by
  obtain ⟨hbR, hRP, hPA, hAF⟩ := And.intro h.bR (And.intro h.RP (And.intro h.PA h.AF))
  have hle := h.le
  have hgs := hgrow.size
  have hput := h.g.rws.put_p (q := ⟨left, r, ra, rc⟩) hown hgrow (own_base' h.ow (by omega))
  have blk4 : ∀ {k : Nat} {cs : Array Value} {T : TypeId}, w.heap[k]? = some (.cells cs T) → (Value.slice ap ls.length cp).ownBlock ≠ some k → w4.heap[k]? = some (.cells cs T) := fun hk hne =>
    (hgrow.block _ (heap_lt hk) (fun e => hne e.symm)).trans hk
  have qb := blk4 h.g.blk (blk_ne h.g.rws.p h.g.blk (by decide))
  have qP4 := blk4 h.qP h.o3
  have far : ∀ k, k ≠ b → k ≠ P → (((w4.setCell ⟨b, 2, none⟩ (.slice (some ⟨g, 0, none⟩) (ls.length + 1) cap4)).setCell ⟨P, 0, none⟩ (.int .i64 left)).setCell ⟨P, 1, none⟩ (.slice none 0 0)).heap[k]? = w4.heap[k]? := fun k h1 h2 => by
    rw [Below.heap_setCell _ _ _ _ h2, Below.heap_setCell _ _ _ _ h2, Below.heap_setCell _ _ _ _ h1]
  have hgP : g ≠ P := by
    rcases hat with hat | hat
    · intro e; exact h.o3 (e ▸ hat)
    · have := heap_lt h.qP; omega
  have keep : ∀ {B e size n : Nat} {v : Value} {xs : List Value}, w4.ownsRow B e size v n xs → b < B → v.ownBlock ≠ some P → (((w4.setCell ⟨b, 2, none⟩ (.slice (some ⟨g, 0, none⟩) (ls.length + 1) cap4)).setCell ⟨P, 0, none⟩ (.int .i64 left)).setCell ⟨P, 1, none⟩ (.slice none 0 0)).ownsRow B e size v n xs := fun ho hB hne =>
    own_same ho fun k hk _ => far k (by have := (own_block ho hk).1; omega) (fun e => hne (e ▸ hk))
  refine ⟨⟨?_, ⟨keep hput.t (by omega) (blk_ne hput.t qP4 (by decide)), keep hput.n (by omega) (blk_ne hput.n qP4 (by decide)), keep hput.p (by omega) (by simpa [Value.ownBlock] using hgP), fun q hq => keep (hput.r q hq) (by omega) (blk_ne (hput.r q hq) qP4 (by decide)), hput.d⟩, h.g.lt, ?_⟩, ?_, ?_, ?_, World.ownsRow_nil _ _ _ _, h.bR, h.RP, h.PA, by omega, by simp, ?_, by simpa [Value.ownBlock] using hgP⟩
  · rw [Below.heap_setCell _ _ _ _ (show b ≠ P by omega), Below.heap_setCell _ _ _ _ (show b ≠ P by omega), heap_set w4 b 2 _ _ _ qb (by simp)]; simp
  · have := h.g.le; simp; omega
  · exact (far R (by omega) (by omega)).trans (blk4 h.qR (blk_ne h.g.rws.p h.qR (by decide)))
  · have h1 := heap_set (w4.setCell ⟨b, 2, none⟩ (.slice (some ⟨g, 0, none⟩) (ls.length + 1) cap4)) P 0 (.int .i64 left) _ _ ((Below.heap_setCell _ _ _ _ (show P ≠ b by omega)).trans qP4) (by simp)
    have h2 := heap_set _ P 1 (.slice none 0 0) _ _ h1 (by simp)
    exact h2.trans (by simp)
  · exact (far A (by omega) (by omega)).trans (blk4 h.qA (blk_ne h.g.rws.p h.qA (by decide)))
  · intro q hq k hk
    exact Nat.lt_of_lt_of_le (own_block (hput.r q hq) hk).2.1 (Nat.le_refl _)

/-- Where the next part begins. -/
theorem PSt.anew (h : PSt b R P A F w ts ns ls at_ an ap ct cn cp RC left ra r rc bt) (t : Tok) :
    PSt b R P A F ((((w.setCell ⟨A, 0, none⟩ (.int .i64 t.kind)).setCell ⟨A, 1, none⟩ (.string ⟨t.text.toArray⟩)).setCell ⟨A, 2, none⟩ (.int .i64 t.line)).setCell ⟨A, 3, none⟩ (.int .i64 t.col)) ts ns ls at_ an ap ct cn cp RC left ra r rc t := by
  obtain ⟨hbR, hRP, hPA, hAF⟩ := And.intro h.bR (And.intro h.RP (And.intro h.PA h.AF))
  have keep : ∀ {B e size n : Nat} {v : Value} {xs : List Value}, w.ownsRow B e size v n xs → e ≠ 102 → ((((w.setCell ⟨A, 0, none⟩ (.int .i64 t.kind)).setCell ⟨A, 1, none⟩ (.string ⟨t.text.toArray⟩)).setCell ⟨A, 2, none⟩ (.int .i64 t.line)).setCell ⟨A, 3, none⟩ (.int .i64 t.col)).ownsRow B e size v n xs := fun ho he =>
    own_same ho fun k hk _ => far4 _ _ _ _ (fun e => blk_ne ho h.qA (Ne.symm he) (e ▸ hk))
  exact ⟨⟨(far4 _ _ _ _ (by omega)).trans h.g.blk, ⟨keep h.g.rws.t (by decide), keep h.g.rws.n (by decide), keep h.g.rws.p (by decide), fun q hq => keep (h.g.rws.r q hq) (by decide), h.g.rws.d⟩, h.g.lt, by simpa using h.g.le⟩, (far4 _ _ _ _ (by omega)).trans h.qR, (far4 _ _ _ _ (by omega)).trans h.qP, store4 h.qA _ _ _ _, keep h.ow (by decide), h.bR, h.RP, h.PA, h.AF, by simpa using h.le, h.o2, h.o3⟩
end

end Go.Proofs.YtejjdfmobiegdaaDoor

namespace Go.Proofs.YtejjdfmobiegdaaDoor
open Doc

theorem txt_place : ∀ (n : Nat) (t : List UInt8) (line : Nat), t.length ≤ n → (txt t line).2 = (0, 0) ∨ line ≤ (txt t line).2.1
  | _, [], line, _ => .inl (by rw [txt_nil])
  | 0, c :: l, _, h => by simp at h
  | n + 1, c :: l, line, h => by
    have hr := rest_lt c l
    rw [txt_cons]
    split
    · rcases txt_place n (rest (c :: l)) (line + 1) (by simp only [List.length_cons] at h hr; omega) with h1 | h1
      · exact .inl h1
      · exact .inr (by show line ≤ (txt _ _).2.1; omega)
    · exact .inr (Nat.le_refl _)
theorem txt_bad {t : List UInt8} (h : (txt t 1).2 ≠ (0, 0)) : 0 < (txt t 1).2.1 := by
  rcases txt_place _ t 1 (Nat.le_refl _) with h1 | h1
  · exact absurd h1 h
  · omega
theorem txt_ends : ∀ (n : Nat) (t : List UInt8) (line : Nat), t.length ≤ n → EndsOk (txt t line).1
  | _, [], line, _ => by rw [txt_nil]; intro t ht; cases ht
  | 0, c :: l, _, h => by simp at h
  | n + 1, c :: l, line, h => by
    have hr := rest_lt c l
    rw [txt_cons]
    split
    · have ih := txt_ends n (rest (c :: l)) (line + 1) (by simp only [List.length_cons] at h hr; omega)
      intro t ht
      simp only [List.getLast?_append, List.getLast?_cons] at ht
      cases hx : (txt (rest (c :: l)) (line + 1)).1.getLast? with
      | none => rw [hx] at ht; simp at ht; rw [← ht]
      | some u => rw [hx] at ht; simp at ht; rw [← ht]; exact ih u hx
    · intro t ht; cases ht

/-- A rule's rest is not empty, nor longer than all. -/
theorem ruleF_rest : ∀ (l : List Tok) (a : At) (r : Ru), r ∈ (ruleF l a).1 → r.rest ≠ [] ∧ r.rest.length ≤ (match a with | .parts _ q => q.length | _ => 0) + l.length
  | [], a, r, h => by cases a <;> simp [ruleF] at h
  | t :: l, .start, r, h => by
    simp only [ruleF] at h
    split at h
    · have := ruleF_rest l .start r h; simp only [List.length_cons] at *; exact ⟨this.1, by omega⟩
    · split at h
      · have := ruleF_rest l (.named t) r h; simp only [List.length_cons] at *; exact ⟨this.1, by omega⟩
      · cases h
  | t :: l, .named n, r, h => by
    simp only [ruleF] at h
    split at h
    · have := ruleF_rest l (.parts n []) r h; simp only [List.length_cons, List.length_nil] at *; exact ⟨this.1, by omega⟩
    · cases h
  | t :: l, .parts n q, r, h => by
    simp only [ruleF] at h
    split at h
    · cases h
    · split at h
      · rcases List.mem_cons.1 h with rfl | h
        · simp
        · have := ruleF_rest l .start r h; simp only [List.length_cons] at *; exact ⟨this.1, by omega⟩
      · have := ruleF_rest l (.parts n (q ++ [t])) r h; simp only [List.length_cons, List.length_append, List.length_nil] at *; exact ⟨this.1, by omega⟩
theorem ruleF_many : ∀ (l : List Tok) (a : At), (ruleF l a).1.length ≤ l.length
  | [], a => by cases a <;> simp [ruleF]
  | t :: l, .start => by
    simp only [ruleF]
    split
    · have := ruleF_many l .start; simp only [List.length_cons]; omega
    · split
      · have := ruleF_many l (.named t); simp only [List.length_cons]; omega
      · simp
  | t :: l, .named n => by
    simp only [ruleF]
    split
    · have := ruleF_many l (.parts n []); simp only [List.length_cons]; omega
    · simp
  | t :: l, .parts n q => by
    simp only [ruleF]
    split
    · simp
    · split
      · have := ruleF_many l .start; simp only [List.length_cons]; omega
      · have := ruleF_many l (.parts n (q ++ [t])); simp only [List.length_cons]; omega

theorem results_cttt {fn : Func} {p0 p1 p2 p3 : Tmp} {t0 : TypeId} (h : fn.results = #[.cell p0 t0, .tmp p1, .tmp p2, .tmp p3]) {tmps : Array Value} {P : Program} {w : World} {a : Addr} {v : Value} (h0 : tmps.getD p0 undef = .pointer (some a)) (l0 : (loadVar t0 a).run P w = .ok v w) :
    (results fn tmps).run P w = .ok (.tuple #[v, tmps.getD p1 undef, tmps.getD p2 undef, tmps.getD p3 undef]) w := by
  simp only [results, h]
  simp at h0
  simp [Result.andThen, h0, l0, asAddr]

end Go.Proofs.YtejjdfmobiegdaaDoor
