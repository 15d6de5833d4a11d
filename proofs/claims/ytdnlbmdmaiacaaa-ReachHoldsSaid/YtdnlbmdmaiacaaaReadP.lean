/- read: a text as a grammar, or the panic that tells where it ends. -/
import Derived.Test.YtdnlbmdmaiacaaaAddParts
import Derived.Test.YtdnlbmdmaiacaaaLines
namespace Go.Proofs.Ytdnlbmdmaiacaaa
open Go.RowKit
open Doc

/-- A grammar whose memory is from block B on. -/
def GramFrom (B : Nat) (w : World) (v : Value) (g : Gr) : Prop := ∀ W : World, (∀ k, B ≤ k → k < w.heap.size → W.heap[k]? = w.heap[k]?) → GramAt W v g
theorem GramFrom.at_ {B : Nat} {w : World} {v : Value} {g : Gr} (h : GramFrom B w v g) : GramAt w v g := h w fun _ _ _ => rfl
theorem GramFrom.same {B : Nat} {w w' : World} {v : Value} {g : Gr} (h : GramFrom B w v g) (hs : w.heap.size ≤ w'.heap.size) (hk : ∀ k, B ≤ k → k < w.heap.size → w'.heap[k]? = w.heap[k]?) : GramFrom B w' v g := fun W hW => h W fun k h1 h2 => (hW k h1 (Nat.lt_of_lt_of_le h2 hs)).trans (hk k h1 h2)

/-- How read ends. -/
def ReadEnd (B : Nat) (t : List UInt8) (e : Ending) (w' : World) : Prop :=
  match parse t with
  | .ok g => ∃ v, e = .returned v ∧ GramFrom B w' v g
  | .bad l c x => e = .panicked [{ v := faultV l c x, recovered := false }]

theorem parse_bad {B : Nat} {t : List UInt8} {e : Ending} {w' : World} {l c x : Nat} (h : parse t = .bad l c x) (he : e = .panicked [{ v := faultV l c x, recovered := false }]) : ReadEnd B t e w' := by
  unfold ReadEnd; rw [h]; exact he

theorem results_cell1 {fn : Func} {p : Tmp} {ty : TypeId} (h : fn.results = #[.cell p ty]) (tmps : Array Value) (P : Program) (w : World) :
    (results fn tmps).run P w = ((asAddr (tmps.getD p undef)).run P w).andThen fun a w₁ => (loadVar ty a).run P w₁ := by
  simp only [results, h]
  simp [Sem.run_bind, Result.andThen]

theorem txt_len : ∀ (n : Nat) (t : List UInt8) (line : Nat), t.length ≤ n → (txt t line).1.length ≤ 2 * t.length
  | _, [], _, _ => by rw [txt_nil]; simp
  | 0, c :: l, _, h => by simp at h
  | n + 1, c :: l, line, h => by
    have hl := line_len c l
    have hr := rest_lt c l
    have hh := lin_len _ (head (c :: l)) line 1 (Nat.le_refl _)
    have ih := txt_len n (rest (c :: l)) (line + 1) (by simp only [List.length_cons] at h hr; omega)
    rw [txt_cons]
    split
    · simp only [List.length_append, List.length_cons]; omega
    · simp

theorem toks_slice {B : Nat} {w : World} {e : TypeId} {v : Value} {L : List Tok} (h : Owns B w e v L) : ∃ a cap, v = .slice a L.length cap ∧ Cells w a (tall L) ∧ L.length ≤ cap ∧ cap ≤ maxLen := by
  unfold Owns at h
  obtain ⟨a, cap, rfl, hc⟩ := cells_own h
  refine ⟨a, cap, rfl, hc, ?_⟩
  rcases h.2 with ⟨hv, h0⟩ | ⟨g, cap', cur, hv, _, _, hn, hm, _⟩
  · simp only [Value.slice.injEq] at hv; exact ⟨by omega, by unfold maxLen; omega⟩
  · simp only [Value.slice.injEq] at hv; exact ⟨by omega, by omega⟩

theorem Cells.under {b : Nat} {w : World} {a : Option Addr} {xs : List Value} (h : Cells w a xs) (hb : w.heap.size ≤ b) {w' : World} (hw : Below w.heap.size w w') : Under b w' a xs := fun _ hW => h.below (hw.trans (hW.mono hb))

theorem rules_cells (a : Option Addr) (cap : Nat) (l : List Tok) (w : World) (h : Cells w a (tall l)) (hl : l.length ≤ 4000000) (hcap : l.length ≤ cap) (hc4 : cap ≤ maxLen) :
    Calls Try.prog 90 #[.slice a l.length cap] w fun e w' => Below w.heap.size w w' ∧ ∃ ra rc, e = .returned (.slice ra (cutF l 0 0).length rc) ∧ Cells w' ra ((cutF l 0 0).map (ruV a cap)) :=
  (rules_any a cap l w h hl hcap hc4).mono fun e w' ⟨hb, v, he, ho⟩ => by
    obtain ⟨ra, rc, rfl, hc⟩ := cells_own ho
    exact ⟨hb, ra, rc, he, hc⟩

theorem cut_len : ∀ (l : List Tok) (i st : Nat), (cutF l i st).length ≤ l.length
  | [], _, _ => Nat.le_refl _
  | t :: l, i, st => by
    have h1 := cut_len l (i + 1) (i + 1)
    have h2 := cut_len l (i + 1) st
    simp only [cutF]
    split
    · split
      · simp only [List.length_cons]; omega
      · simp only [List.length_cons]; omega
    · simp only [List.length_cons]; omega

set_option maxRecDepth 100000 in
set_option maxHeartbeats 16000000 in
theorem read_any (s : ByteArray) (w : World) (hs : s.size ≤ 1000000) :
    Calls Try.prog 51 #[.string s] w fun e w' => Below w.heap.size w w' ∧ ReadEnd w.heap.size s.data.toList e w' := by
  have hto := fun W => tokens_any s W hs
  go_enter Try.func51, Try.ntmps51
  rcases htx : txt s.data.toList 1 with ⟨L, ln, cl⟩
  by_cases h0 : (ln, cl) = ((0, 0) : Nat × Nat)
  · have hlen : L.length ≤ 2000000 := by have := txt_len _ s.data.toList 1 (Nat.le_refl _); rw [htx, ← Lib.size_eq] at this; simp only at this; omega
    have hto2 : ∀ W : World, Calls Try.prog 88 #[.string s] W fun e w' => (∃ a cap, e = .returned (.tuple #[.slice a L.length cap, .int .i64 0, .int .i64 0, .int .i64 0]) ∧ Cells w' a (tall L) ∧ L.length ≤ cap ∧ cap ≤ maxLen) ∧ Below W.heap.size W w' := by
      intro W0
      refine (hto W0).mono fun e w' ⟨hb, he⟩ => ?_
      unfold TokEnd at he
      rw [htx, if_pos h0] at he
      obtain ⟨v, rfl, ho⟩ := he
      obtain ⟨a, cap, rfl, h1, h2, h3⟩ := toks_slice ho
      exact ⟨⟨a, cap, rfl, h1, h2, h3⟩, hb⟩
    have HT := Lib.hid hto2
    have hfair : ∀ t ∈ L, FairT t := by have := txt_fairT s.data.toList 1; rw [htx] at this; exact this
    have hbr := bad_rule L .start 0 rfl
    have hparse : parse s.data.toList = match (ruleF L .start).2 with
        | some b => .bad b.line b.col 2
        | none =>
          if (ruleF L .start).1 = [] then .bad 0 0 2
          else match namesF (ruleF L .start).1 [] with
          | .inr (a, b, e) => .bad a b e
          | .inl ns =>
            match bodiesF ns (ruleF L .start).1 0 [] [] with
            | .inr (a, b, e) => .bad a b e
            | .inl (ts, ps) => if ts = [] then .bad 0 0 2 else .ok ⟨ts, ns, ps⟩ := by
      conv => lhs; unfold parse; rw [htx]
      rw [if_neg (by simpa using h0)]
      rfl
    have HFR := Lib.hid hfair
    clear hto2 hto hfair htx h0
    have hS : Below w.heap.size w (w.alloc (.cells #[.slice none 0 0, .slice none 0 0, .slice none 0 0] 26)) := (Below.refl _ _).alloc (Nat.le_refl _) _
    cases hbf : badF L 0 with
    | some t =>
      rw [← hbr, hbf] at hparse
      have HP := Lib.hid hparse
      have HBF := Lib.hid hbf
      clear hparse hbr hbf
      go_wp2_with (first
        | (go_at_call 88; refine (HT.out _).mono ?_; rintro e w2 ⟨⟨a, cap, rfl, hc2, hcap2, hm2⟩, hb2⟩)
        | (go_at_call 89; refine (checkForm_any a cap L _ hc2 (by omega)).mono ?_; rintro e w3 ⟨he, hb3⟩; unfold FormEnd at he; rw [HBF.out] at he; subst he))
      exact ⟨rfl, ((hS.trans (hb2.mono hS.size)).trans (hb3.mono (Nat.le_trans hS.size hb2.size))), parse_bad HP.out rfl⟩
    | none =>
      rw [← hbr, hbf] at hparse
      simp only at hparse
      obtain ⟨hr1, hr2⟩ := cut_rule L L 0 0 .start rfl rfl (hbr.symm.trans hbf) (by rintro n (h | ⟨r, h⟩) <;> cases h) (by intro n r h; cases h)
      rw [hr1] at hparse
      have HBF := Lib.hid hbf
      have HLO := Lib.hid hr2
      clear hbr hbf hr1 hr2
      have hcl := cut_len L 0 0
      have HRU := Lib.hid (fun (W : World) (a : Option Addr) (cap : Nat) (h : Cells W a (tall L)) (h1 : L.length ≤ cap) (h2 : cap ≤ maxLen) => rules_cells a cap L W h (by omega) h1 h2)
      generalize cutF L 0 0 = PS at *
      by_cases hps : PS = []
      · subst hps
        rw [List.map_nil, if_pos rfl] at hparse
        have HP := Lib.hid hparse
        clear hparse
        go_wp2_with (first
          | (go_at_call 88; refine (HT.out _).mono ?_; rintro e w2 ⟨⟨a, cap, rfl, hc2, hcap2, hm2⟩, hb2⟩)
          | (go_at_call 89; refine (checkForm_any a cap L _ hc2 (by omega)).mono ?_; rintro e w3 ⟨he, hb3⟩; unfold FormEnd at he; rw [HBF.out] at he; subst he)
          | (go_at_call 90; refine (HRU.out _ a cap (hc2.below hb3) hcap2 hm2).mono ?_; rintro e w4 ⟨hb4, ra, rc, rfl, hc4⟩))
        exact ⟨rfl, ((hS.trans (hb2.mono hS.size)).trans (hb3.mono (Nat.le_trans hS.size hb2.size))).trans (hb4.mono (Nat.le_trans (Nat.le_trans hS.size hb2.size) hb3.size)), parse_bad HP.out rfl⟩
      · rw [if_neg (by simpa using hps)] at hparse
        have hpl : ((PS.length : Int) == 0) = false := by simpa using hps
        have hpl2 : PS.length ≤ 2000000 := by omega
        have HPS := Lib.hid hps
        have HP := Lib.hid hparse
        clear hparse hps
        go_wp2_with (first
          | (go_at_call 88; refine (HT.out _).mono ?_; rintro e w2 ⟨⟨a, cap, rfl, hc2, hcap2, hm2⟩, hb2⟩)
          | (go_at_call 89; refine (checkForm_any a cap L _ hc2 (by omega)).mono ?_; rintro e w3 ⟨he, hb3⟩; unfold FormEnd at he; rw [HBF.out] at he; subst he)
          | (go_at_call 90; refine (HRU.out _ a cap (hc2.below hb3) hcap2 hm2).mono ?_; rintro e w4 ⟨hb4, ra, rc, rfl, hc4⟩))
        have hb14 : Below w.heap.size w w4 := ((hS.trans (hb2.mono hS.size)).trans (hb3.mono (Nat.le_trans hS.size hb2.size))).trans (hb4.mono (Nat.le_trans (Nat.le_trans hS.size hb2.size) hb3.size))
        have hb24 : Below w2.heap.size w2 w4 := hb3.trans (hb4.mono hb3.size)
        have hq2 : w4.heap[w.heap.size]? = some (.cells #[.slice none 0 0, .slice none 0 0, .slice none 0 0] 26) := by
          have h1 := heap_alloc_new w (.cells #[.slice none 0 0, .slice none 0 0, .slice none 0 0] 26)
          have h2 := (hb2.block w.heap.size (by simp)).trans h1
          exact (hb24.block w.heap.size (heap_lt h2)).trans h2
        have hal : Below w4.heap.size w4 (w4.alloc (.cells #[.slice none 0 0, .slice none 0 0, .slice none 0 0] 122)) := (Below.refl _ _).alloc (Nat.le_refl _) _
        have hUa : Under w4.heap.size (w4.alloc (.cells #[.slice none 0 0, .slice none 0 0, .slice none 0 0] 122)) a (tall L) := hc2.under hb24.size (hb24.trans (hal.mono hb24.size))
        have hUr : Under w4.heap.size (w4.alloc (.cells #[.slice none 0 0, .slice none 0 0, .slice none 0 0] 122)) ra (PS.map (ruV a cap)) := hc4.under (Nat.le_refl _) hal
        have hbS : Below w.heap.size w (w4.alloc (.cells #[.slice none 0 0, .slice none 0 0, .slice none 0 0] 122)) := hb14.trans (hal.mono hb14.size)
        have hB0 : w.heap.size < w4.heap.size := heap_lt hq2
        have hBl : Bld w4.heap.size (w4.alloc (.cells #[.slice none 0 0, .slice none 0 0, .slice none 0 0] 122)) [] [] [] none none none 0 0 0 :=
          ⟨heap_alloc_new w4 _, World.ownsRow_nil _ _ _ _, World.ownsRow_nil _ _ _ _, World.ownsRow_nil _ _ _ _, (by intro q hq; cases hq), (by intro x y h; cases h), (by intro q hq; cases hq)⟩
        have hq2' : ∀ W, Below w4.heap.size (w4.alloc (.cells #[.slice none 0 0, .slice none 0 0, .slice none 0 0] 122)) W → W.heap[w.heap.size]? = some (.cells #[.slice none 0 0, .slice none 0 0, .slice none 0 0] 26) := fun W hW => (hW.block _ hB0).trans ((hal.block _ hB0).trans hq2)
        have HUA := Lib.hid hUa
        have HUR := Lib.hid hUr
        have HBS := Lib.hid hbS
        have HQ2 := Lib.hid hq2'
        clear hb14 hb24 hq2 hal hUa hUr hbS hq2' hc2 hc4 hb2 hb3 hb4 hS HT HRU HBF
        generalize hSS : w4.alloc (.cells #[.slice none 0 0, .slice none 0 0, .slice none 0 0] 122) = S at *
        clear hSS
        generalize w4.heap.size = b at *
        unfold maxLen at hm2
        go_loopw [38] (fun i wr => ∃ (k : Nat) (ns : List (List UInt8)) (an : Option Addr) (cn : Nat), k ≤ PS.length ∧ i = .int .i64 k ∧ Bld b wr [] ns [] none an none 0 cn 0 ∧ Names [] ns ∧ Below b S wr ∧
          Hid (namesF (PS.map (ruOf L)) [] = namesF ((PS.drop k).map (ruOf L)) ns)) (fun i _ => PS.length - (intOf i).toNat)
        case atStart => exact ⟨0, [], none, 0, Nat.zero_le _, rfl, hBl, ⟨by simp, by simp, by simp, by simp⟩, Below.refl _ _, Lib.hid (by simp)⟩
        case round =>
          obtain ⟨k, ns, an, cn, hk, rfl, hbl, hnn, hbe, HR⟩ := hrel
          clear hBl
          by_cases hlt : k < PS.length
          · obtain ⟨p, hpk⟩ : ∃ p, PS[k]? = some p := ⟨_, List.getElem?_eq_getElem hlt⟩
            have hlo := HLO.out p (List.mem_of_getElem? hpk)
            obtain ⟨n, hn, hn1⟩ := hlo.name
            have hl3 := hlo.len
            have h33 := hlo.three
            have hstep : namesF ((PS.drop k).map (ruOf L)) ns = if (idx ns n.text).isSome then .inr (n.line, n.col, 4) else if 8 ≤ ns.length then .inr (n.line, n.col, 5) else namesF ((PS.drop (k + 1)).map (ruOf L)) (ns ++ [n.text]) := by
              rw [List.drop_eq_getElem_cons hlt, List.map_cons]
              have h1 : PS[k] = p := by rw [List.getElem?_eq_getElem hlt] at hpk; exact Option.some.inj hpk
              have h2 : (ruOf L p).name = n := by
                have hpl' : p.1 < L.length := by omega
                unfold ruOf
                rw [List.drop_eq_getElem_cons hpl']
                rw [List.getElem?_eq_getElem hpl'] at hn
                exact Option.some.inj hn
              rw [h1]
              simp only [namesF, h2]
            obtain ⟨bb, off, rfl, hbbl, hc⟩ := (HUA.out wr hbe).get (tall_nil_iff (by omega))
            obtain ⟨c0, c1, c2, c3⟩ := tok_cells hc hn
            obtain ⟨rb, ro, rfl, hrbl, hrc⟩ := (HUR.out wr hbe).get (by intro e; rw [List.map_eq_nil_iff] at e; exact HPS.out e)
            have r0 : wr.cell? ⟨rb, ro + k, none⟩ = some (.slice (some ⟨bb, off + p.1 * 4, none⟩) p.2 (cap - p.1)) := hrc k _ (by rw [List.getElem?_map, hpk]; rfl)
            have e1 : (k : Int) < PS.length := by omega
            have e2 : (0 : Int) < p.2 := by omega
            obtain ⟨nk, nt, nln, nc⟩ := n
            simp only at c0 c1 c2 c3 hn1
            have HR1 := Lib.hid (HR.out.trans hstep)
            have hbw := hbl.lt
            have HN1 := Lib.hid hn1
            have HFN := Lib.hid (HFR.out _ (List.mem_of_getElem? hn))
            clear hc hrc hn hn1 hstep HR hpk hlo
            cases hi : (idx ns nt).isSome with
            | true =>
              have hc1 := addNon_twice ⟨nk, nt, nln, nc⟩ hbl hnn.nl hi
              unfold tokV at hc1
              simp only at hc1
              have HC1 := Lib.hid hc1
              have hnm : namesF (PS.map (ruOf L)) [] = .inr (nln, nc, 4) := by rw [HR1.out]; simp only [hi]; rfl
              have hpb : parse s.data.toList = .bad nln nc 4 := by rw [HP.out, hnm]
              have HPB := Lib.hid hpb
              have HB3 := Lib.hid (HBS.out.trans (hbe.mono (Nat.le_of_lt hB0)))
              have HSZ := Lib.hid (show w.heap.size ≤ wr.heap.size from Nat.le_trans (Nat.le_of_lt hB0) (Nat.le_of_lt hbw))
              clear hc1 hnm hpb hi HR1 
              go_wp2_with (go_at_call 91; with_reducible refine HC1.out.mono ?_; rintro e w5 ⟨rfl, hb5⟩)
              exact ⟨rfl, HB3.out.trans (hb5.mono HSZ.out), parse_bad HPB.out rfl⟩
            | false =>
              by_cases h8 : ns.length = 8
              · have hc1 := addNon_limit ⟨nk, nt, nln, nc⟩ hbl h8 hi
                unfold tokV at hc1
                simp only at hc1
                have HC1 := Lib.hid hc1
                have hnm : namesF (PS.map (ruOf L)) [] = .inr (nln, nc, 5) := by rw [HR1.out]; simp only [hi]; rw [if_neg (by simp), if_pos (by omega)]
                have hpb : parse s.data.toList = .bad nln nc 5 := by rw [HP.out, hnm]
                have HPB := Lib.hid hpb
                have HB3 := Lib.hid (HBS.out.trans (hbe.mono (Nat.le_of_lt hB0)))
                have HSZ := Lib.hid (show w.heap.size ≤ wr.heap.size from Nat.le_trans (Nat.le_of_lt hB0) (Nat.le_of_lt hbw))
                clear hc1 hnm hpb hi HR1 h8
                go_wp2_with (go_at_call 91; with_reducible refine HC1.out.mono ?_; rintro e w5 ⟨rfl, hb5⟩)
                exact ⟨rfl, HB3.out.trans (hb5.mono HSZ.out), parse_bad HPB.out rfl⟩
              · have hns8 : ns.length < 8 := by have := hnn.nl; omega
                have hc1 := addNon_ok ⟨nk, nt, nln, nc⟩ hbl hns8 hi
                unfold tokV at hc1
                simp only at hc1
                have HC1 := Lib.hid hc1
                have HR2 : Hid (namesF (PS.map (ruOf L)) [] = namesF ((PS.drop (k + 1)).map (ruOf L)) (ns ++ [nt])) := Lib.hid (by rw [HR1.out]; simp only [hi]; rw [if_neg (by simp), if_neg (by omega)])
                have HNN : Hid (Names [] (ns ++ [nt])) := Lib.hid ⟨by simp, by
                  intro x hx
                  rcases List.mem_append.1 hx with hx | hx
                  · exact hnn.nk x hx
                  · rw [List.mem_singleton.1 hx]; exact HFN.out.u HN1.out, by simp, by simp; omega⟩
                clear hc1 hi h8 HR1
                go_wp2_with (go_at_call 91; with_reducible refine HC1.out.mono ?_; rintro e w5 ⟨rfl, hb5, an2, cn2, hbl5⟩)
                go_roundw
                case rel => exact ⟨k + 1, ns ++ [nt], an2, cn2, by omega, by go_num, hbl5, HNN.out, hbe.trans hb5, HR2⟩
                case measure => simp [intOf]; omega
          · have hend : namesF ((PS.drop k).map (ruOf L)) ns = .inl ns := by rw [List.drop_of_length_le (by omega)]; rfl
            have hnm := HR.out.trans hend
            have hp2 := HP.out
            rw [hnm] at hp2
            simp only at hp2
            have HP2 := Lib.hid hp2
            have e1 : ¬ (k : Int) < PS.length := by omega
            clear hend hnm hp2 HR HP
            go_wp2
            go_loopw [49] (fun i w6 => ∃ (k : Nat) (ts : List (List UInt8)) (at' ap' : Option Addr) (ct' cp' : Nat) (ls : List Lay), k ≤ PS.length ∧ i = .int .i64 k ∧ Bld b w6 ts ns ls at' an ap' ct' cn cp' ∧ Names ts ns ∧ ls.length ≤ 24 ∧ Below b S w6 ∧
              Hid (bodiesF ns (PS.map (ruOf L)) 0 [] [] = bodiesF ns ((PS.drop k).map (ruOf L)) k ts (ls.map Lay.plain))) (fun i _ => PS.length - (intOf i).toNat)
            case atStart => exact ⟨0, [], none, none, 0, 0, [], Nat.zero_le _, rfl, hbl, hnn, by simp, hbe, Lib.hid (by simp)⟩
            case round =>
              clear hbl hnn hbe hlt e1 hk
              obtain ⟨k, ts, at', ap', ct', cp', ls, hk, rfl, hbl, hnn, hl24, hbe, HR⟩ := hrel
              rename World => w6
              by_cases hlt : k < PS.length
              · obtain ⟨p, hpk⟩ : ∃ p, PS[k]? = some p := ⟨_, List.getElem?_eq_getElem hlt⟩
                have hlo := HLO.out p (List.mem_of_getElem? hpk)
                have hl3 := hlo.len
                have h33 := hlo.three
                have hstep : bodiesF ns ((PS.drop k).map (ruOf L)) k ts (ls.map Lay.plain) = match partsF ns ((100 + k : Nat) : Int) ((L.drop (p.1 + 2)).take (p.2 - 2)) ts (ls.map Lay.plain) [] (((L.drop (p.1 + 2)).take (p.2 - 2)).headD (ruOf L p).name) with
                    | .inr e => .inr e
                    | .inl (ts', ps') => bodiesF ns ((PS.drop (k + 1)).map (ruOf L)) (k + 1) ts' ps' := by
                  rw [List.drop_eq_getElem_cons hlt, List.map_cons]
                  have h1 : PS[k] = p := by rw [List.getElem?_eq_getElem hlt] at hpk; exact Option.some.inj hpk
                  rw [h1]
                  rfl
                obtain ⟨bb, off, rfl, hbbl, hc⟩ := (HUA.out w6 hbe).get (tall_nil_iff (by omega))
                obtain ⟨rb, ro, rfl, hrbl, hrc⟩ := (HUR.out w6 hbe).get (by intro e; rw [List.map_eq_nil_iff] at e; exact HPS.out e)
                have r0 : w6.cell? ⟨rb, ro + k, none⟩ = some (.slice (some ⟨bb, off + p.1 * 4, none⟩) p.2 (cap - p.1)) := hrc k _ (by rw [List.getElem?_map, hpk]; rfl)
                have hbl2 : ((L.drop (p.1 + 2)).take (p.2 - 2)).length = p.2 - 2 := by rw [List.length_take, List.length_drop]; omega
                have hap := addParts_any ((100 + k : Nat) : Int) (some ⟨bb, off + (p.1 + 2) * 4, none⟩) (cap - p.1 - 2) ((L.drop (p.1 + 2)).take (p.2 - 2)) (ruOf L p).name hbl hnn
                  (fun t ht => ⟨HFR.out t (List.mem_of_mem_drop (List.mem_of_mem_take ht)), hlo.body t ht⟩) hlo.last ((HUA.out.trans hbe).sub (p.1 + 2) (p.2 - 2)) (by omega) (by omega) (by unfold maxLen; omega) hl24
                rw [hbl2, show off + (p.1 + 2) * 4 = off + p.1 * 4 + 8 by omega] at hap
                unfold PartsEnd at hap
                have hK : ((100 + k : Nat) : Int) = 100 + (k : Int) := by push_cast; rfl
                have e1 : (k : Int) < PS.length := by omega
                have i1 : (2 : Int) ≤ p.2 := by omega
                have i2 : (p.2 : Int) ≤ (cap : Int) - p.1 := by omega
                have i3 : ¬ cap - p.1 = 2 := by omega
                have i4 : ((p.2 : Int) - 2).toNat = p.2 - 2 := by omega
                have HR1 := Lib.hid (HR.out.trans hstep)
                have hbw := hbl.lt
                clear hc hrc hstep HR hpk hlo hbl2
                cases hpf : partsF ns ((100 + k : Nat) : Int) ((L.drop (p.1 + 2)).take (p.2 - 2)) ts (ls.map Lay.plain) [] (((L.drop (p.1 + 2)).take (p.2 - 2)).headD (ruOf L p).name) with
                | inr x =>
                  rw [hpf] at hap
                  simp only at hap
                  rw [hK] at hap
                  have HAP := Lib.hid hap
                  have hb1 : bodiesF ns (PS.map (ruOf L)) 0 [] [] = .inr x := by rw [HR1.out, hpf]
                  have hpb : parse s.data.toList = .bad x.1 x.2.1 x.2.2 := by rw [HP2.out, hb1]
                  have HPB := Lib.hid hpb
                  have HB3 := Lib.hid (HBS.out.trans (hbe.mono (Nat.le_of_lt hB0)))
                  clear hap hb1 hpb hpf HR1 hK
                  go_wp2_with (go_at_call 92; with_reducible refine HAP.out.mono ?_; rintro e w5 ⟨hb5, rfl⟩)
                  exact ⟨rfl, HB3.out.trans (hb5.mono (Nat.le_of_lt hB0)), parse_bad HPB.out rfl⟩
                | inl y =>
                  obtain ⟨ts2, ps2⟩ := y
                  rw [hpf] at hap
                  simp only at hap
                  rw [hK] at hap
                  have HAP := Lib.hid hap
                  have hb1 : bodiesF ns (PS.map (ruOf L)) 0 [] [] = bodiesF ns ((PS.drop (k + 1)).map (ruOf L)) (k + 1) ts2 ps2 := by rw [HR1.out, hpf]
                  have HB1 := Lib.hid hb1
                  clear hap hb1 hpf HR1 hK
                  go_wp2_with (go_at_call 92; with_reducible refine HAP.out.mono ?_; rintro e w5 ⟨hb5, rfl, hn5, hl5, at5, ap5, ct5, cp5, ls5, hbl5, hls5⟩)
                  have HL5 := Lib.hid hls5
                  clear hls5
                  go_roundw
                  case rel => exact ⟨k + 1, ts2, at5, ap5, ct5, cp5, ls5, by omega, by go_num, hbl5, hn5, by have := congrArg List.length HL5.out; simp only [List.length_map] at this; omega, hbe.trans hb5, Lib.hid (by rw [HB1.out, HL5.out])⟩
                  case measure => simp [intOf]; omega
              · have hend : bodiesF ns ((PS.drop k).map (ruOf L)) k ts (ls.map Lay.plain) = .inl (ts, ls.map Lay.plain) := by rw [List.drop_of_length_le (by omega)]; rfl
                have hb1 := HR.out.trans hend
                have hp3 := HP2.out
                rw [hb1] at hp3
                simp only at hp3
                have e1 : ¬ (k : Int) < PS.length := by omega
                obtain ⟨d0, d1, d2⟩ := hbl.cell
                clear hend hb1 HR HP2
                by_cases hts : ts = []
                · rw [if_pos hts] at hp3
                  have htl : ((ts.length : Int) == 0) = true := by simp [hts]
                  have HP3 := Lib.hid hp3
                  clear hp3 hts
                  go_wp2
                  exact ⟨rfl, HBS.out.trans (hbe.mono (Nat.le_of_lt hB0)), parse_bad HP3.out rfl⟩
                · rw [if_neg hts] at hp3
                  have htl : ((ts.length : Int) == 0) = false := by simpa using hts
                  have HP3 := Lib.hid hp3
                  obtain ⟨z0, x0⟩ := blk_cell (i := 0) (HQ2.out w6 hbe) rfl
                  obtain ⟨z1, x1⟩ := blk_cell (i := 1) (HQ2.out w6 hbe) rfl
                  obtain ⟨z2, x2⟩ := blk_cell (i := 2) (HQ2.out w6 hbe) rfl
                  clear hp3 hts
                  have hh1 := heap_set w6 w.heap.size 0 (.slice at' ts.length ct') _ _ (HQ2.out w6 hbe) (by simp)
                  have hh2 := heap_set _ w.heap.size 1 (.slice an ns.length cn) _ _ hh1 (by simp)
                  have hh3 := heap_set _ w.heap.size 2 (.slice ap' ls.length cp') _ _ hh2 (by simp)
                  have hks : ∀ k, k ≠ w.heap.size → (((w6.setCell ⟨w.heap.size, 0, none⟩ (.slice at' ts.length ct')).setCell ⟨w.heap.size, 1, none⟩ (.slice an ns.length cn)).setCell ⟨w.heap.size, 2, none⟩ (.slice ap' ls.length cp')).heap[k]? = w6.heap[k]? := fun k hk => by
                    rw [Below.heap_setCell _ _ _ _ hk, Below.heap_setCell _ _ _ _ hk, Below.heap_setCell _ _ _ _ hk]
                  have hblF := hbl.same (hks b (by omega)) (fun g hg => hks g (by have := (own_block hbl.t hg).1; omega)) (fun g hg => hks g (by have := (own_block hbl.n hg).1; omega)) (fun g hg => hks g (by have := (own_block hbl.p hg).1; omega)) (fun q hq g hg => hks g (by have := (own_block (hbl.r q hq) hg).1; omega))
                  have hbF : Below w.heap.size w (((w6.setCell ⟨w.heap.size, 0, none⟩ (.slice at' ts.length ct')).setCell ⟨w.heap.size, 1, none⟩ (.slice an ns.length cn)).setCell ⟨w.heap.size, 2, none⟩ (.slice ap' ls.length cp')) :=
                    (((HBS.out.trans (hbe.mono (Nat.le_of_lt hB0))).setCell (p := ⟨w.heap.size, 0, none⟩) (Nat.le_refl _) _).setCell (p := ⟨w.heap.size, 1, none⟩) (Nat.le_refl _) _).setCell (p := ⟨w.heap.size, 2, none⟩) (Nat.le_refl _) _
                  have HH3 := Lib.hid hh3
                  have hgf : GramFrom w.heap.size (((w6.setCell ⟨w.heap.size, 0, none⟩ (.slice at' ts.length ct')).setCell ⟨w.heap.size, 1, none⟩ (.slice an ns.length cn)).setCell ⟨w.heap.size, 2, none⟩ (.slice ap' ls.length cp')) (.agg #[.slice at' ts.length ct', .slice an ns.length cn, .slice ap' ls.length cp']) ⟨ts, ns, ls.map Lay.plain⟩ := fun W hW =>
                    (hblF.same (hW b (by omega) hblF.lt) (fun g hg => hW g (by have := (own_block hblF.t hg).1; omega) (own_block hblF.t hg).2.1) (fun g hg => hW g (by have := (own_block hblF.n hg).1; omega) (own_block hblF.n hg).2.1) (fun g hg => hW g (by have := (own_block hblF.p hg).1; omega) (own_block hblF.p hg).2.1) (fun q hq g hg => hW g (by have := (own_block (hblF.r q hq) hg).1; omega) (own_block (hblF.r q hq) hg).2.1)).gram
                  have HGF := Lib.hid hgf
                  have HBF := Lib.hid hbF
                  clear hh1 hh2 hh3 hks hblF hbF hgf
                  go_wp2
                  (try simp only [Exit.inBlock, Exit.then])
                  refine bodyPost_ret (v := .agg #[.slice at' ts.length ct', .slice an ns.length cn, .slice ap' ls.length cp']) ?_ rfl ⟨HBF.out, ?_⟩
                  · rw [results_cell1 (p := 2) (ty := 26) rfl]
                    show ((asAddr (.pointer (some ⟨w.heap.size, 0, none⟩))).run _ _).andThen _ = _
                    show (loadVar 26 ⟨w.heap.size, 0, none⟩).run _ _ = _
                    exact run_loadVar_row _ w.heap.size 26 26 _ (0, 0) _ (HH3.out.trans (by simp)) Try.underlying26 rfl (by kernel_rfl)
                  · unfold ReadEnd
                    rw [HP3.out]
                    exact ⟨_, rfl, HGF.out⟩
  · have hto2 : ∀ W : World, Calls Try.prog 88 #[.string s] W fun e w' => e = .returned (.tuple #[.slice none 0 0, .int .i64 ln, .int .i64 cl, .int .i64 2]) ∧ Below W.heap.size W w' := fun W => (hto W).mono fun e w' ⟨hb, he⟩ => by
      unfold TokEnd at he
      rw [htx, if_neg h0] at he
      exact ⟨he, hb⟩
    have hp : parse s.data.toList = .bad ln cl 2 := by unfold parse; rw [htx]; exact if_pos h0
    have HP := Lib.hid hp
    have HT := Lib.hid hto2
    clear hp hto2 hto htx h0
    go_wp2_with (go_at_call 88; refine (HT.out _).mono ?_; rintro e w2 ⟨rfl, hb2⟩)
    exact ⟨rfl, ((Below.refl _ _).alloc (Nat.le_refl _) _).trans (hb2.mono (by simp)), parse_bad HP.out rfl⟩

end Go.Proofs.Ytdnlbmdmaiacaaa
