/- addParts: the parts of a rule. -/
import Derived.Test.YtdnlbmdmaiacaaaAddProd
namespace Go.Proofs.Ytdnlbmdmaiacaaa
open Go.RowKit
open Doc

theorem prod_len {nons : List (List UInt8)} {left : Int} {names : List Tok} {p : Tok} {ts : List (List UInt8)} {ps : List (Int × List Int)} {x : List (List UInt8) × List (Int × List Int)} (h : prodF nons left names p ts ps = .inl x) : x.2.length ≤ 24 := by
  unfold prodF at h
  cases hr : rowF nons names ts [] with
  | inr e => rw [hr] at h; cases h
  | inl y =>
    rw [hr] at h
    simp only at h
    split at h
    · cases h
    · split at h
      · cases h
      · cases h; simp; omega

theorem parts_head (nons : List (List UInt8)) (left : Int) (l : List Tok) (ts : List (List UInt8)) (ps : List (Int × List Int)) (r : List Int) (x y : Tok) : partsF nons left l ts ps r (l.headD x) = partsF nons left l ts ps r (l.headD y) := by
  cases l <;> rfl

theorem tall_take (l : List Tok) (k : Nat) : tall (l.take k) = (tall l).take (k * 4) := by
  induction l generalizing k with
  | nil => simp [tall]
  | cons t l ih =>
    cases k with
    | zero => simp [tall]
    | succ k =>
      rw [List.take_succ_cons, tall_cons, tall_cons, ih, show (k + 1) * 4 = (tcells t).length + k * 4 by simp [tcells]; omega, List.take_length_add_append]
theorem tall_drop (l : List Tok) (k : Nat) : tall (l.drop k) = (tall l).drop (k * 4) := by
  induction l generalizing k with
  | nil => simp [tall]
  | cons t l ih =>
    cases k with
    | zero => simp
    | succ k =>
      rw [List.drop_succ_cons, tall_cons, ih, show (k + 1) * 4 = (tcells t).length + k * 4 by simp [tcells]; omega, ← List.drop_drop, List.drop_left]

/-- A part of what lies there. -/
theorem Cells.sub {w : World} {b off : Nat} {l : List Tok} (h : Cells w (some ⟨b, off, none⟩) (tall l)) (s k : Nat) : Cells w (some ⟨b, off + s * 4, none⟩) (tall ((l.drop s).take k)) := by
  rcases Nat.eq_zero_or_pos l.length with h0 | h0
  · left
    have : l = [] := List.eq_nil_of_length_eq_zero h0
    subst this
    simp [tall]
  · obtain ⟨b', off', he, hlt, hc⟩ := h.get (tall_nil_iff h0)
    cases he
    refine .inr ⟨_, _, rfl, hlt, fun j u hj => ?_⟩
    rw [tall_take, tall_drop] at hj
    have hj2 : (tall l)[s * 4 + j]? = some u := by
      rw [List.getElem?_take] at hj
      split at hj
      · rw [List.getElem?_drop] at hj; exact hj
      · cases hj
    rw [Nat.add_assoc]
    exact hc _ _ hj2
theorem Under.sub {B : Nat} {w : World} {b off : Nat} {l : List Tok} (h : Under B w (some ⟨b, off, none⟩) (tall l)) (s k : Nat) : Under B w (some ⟨b, off + s * 4, none⟩) (tall ((l.drop s).take k)) := fun W hW => (h W hW).sub s k

section
variable {b : Nat} {w : World} {ts ns : List (List UInt8)} {ls : List Lay} {at_ an ap : Option Addr} {ct cn cp : Nat}

/-- How addParts ends. -/
def PartsEnd (b : Nat) (ts ns : List (List UInt8)) (ls : List Lay) (an : Option Addr) (cn : Nat) (left : Int) (body : List Tok) (d : Tok) (e : Ending) (w' : World) : Prop :=
  match partsF ns left body ts (ls.map Lay.plain) [] (body.headD d) with
  | .inr x => e = .panicked [{ v := faultV x.1 x.2.1 x.2.2, recovered := false }]
  | .inl (ts', ps') => e = .returned (.tuple #[]) ∧ Names ts' ns ∧ ps'.length ≤ 24 ∧ ∃ (at' ap' : Option Addr) (ct' cp' : Nat) (ls' : List Lay), Bld b w' ts' ns ls' at' an ap' ct' cn cp' ∧ ls'.map Lay.plain = ps'

set_option maxRecDepth 100000 in
set_option maxHeartbeats 8000000 in
theorem addParts_any (left : Int) (a : Option Addr) (cap : Nat) (body : List Tok) (d : Tok) (h : Bld b w ts ns ls at_ an ap ct cn cp) (hN : Names ts ns) (hb : ∀ t ∈ body, FairT t ∧ t.kind ≠ 3) (hlast : ∀ t, body.getLast? = some t → t.kind = 5)
    (hu : Under b w a (tall body)) (hcap : body.length ≤ cap) (hl : body.length ≤ 4000000) (hc4 : cap ≤ maxLen) (hls : ls.length ≤ 24) :
    Calls Try.prog 92 #[.pointer (some ⟨b, 0, none⟩), .int .i64 left, .slice a body.length cap] w fun e w' => Below b w w' ∧ PartsEnd b ts ns ls an cn left body d e w' := by
  unfold maxLen at hc4
  have HU := Lib.hid hu
  have HN := Lib.hid hN
  have HF := Lib.hid hb
  have HL := Lib.hid hlast
  clear hu hN hb hlast
  go_enter Try.func92, Try.ntmps92
  go_wp2
  go_loopw [6, 11] (fun st i wr => ∃ (k s : Nat) (ts' : List (List UInt8)) (at' ap' : Option Addr) (ct' cp' : Nat) (ls' : List Lay), k ≤ body.length ∧ s ≤ k ∧ i = .int .i64 k ∧ st = .int .i64 s ∧ ls'.length ≤ 24 ∧ Bld b wr ts' ns ls' at' an ap' ct' cn cp' ∧ Names ts' ns ∧
      Below b w wr ∧ Hid (partsF ns left body ts (ls.map Lay.plain) [] (body.headD d) = partsF ns left (body.drop s) ts' (ls'.map Lay.plain) [] ((body.drop s).headD d)) ∧ Hid (∀ j t, s ≤ j → j < k → body[j]? = some t → isName t)) (fun _ i _ => body.length - (intOf i).toNat)
  case atStart => exact ⟨0, 0, ts, at_, ap, ct, cp, ls, Nat.zero_le _, Nat.le_refl _, rfl, rfl, hls, h, HN.out, Below.refl _ _, Lib.hid (by simp), Lib.hid (by intro j t _ hj; omega)⟩
  case round =>
    obtain ⟨k, s, ts', at', ap', ct', cp', ls', hk, hsk, rfl, rfl, hl24, hbl, hnn, hbe, HR, HB⟩ := hrel
    by_cases hlt : k < body.length
    · obtain ⟨t, ht⟩ : ∃ t, body[k]? = some t := ⟨_, List.getElem?_eq_getElem hlt⟩
      have hft := HF.out t (List.mem_of_getElem? ht)
      obtain ⟨bb, off, rfl, hbbl, hc⟩ := (HU.out wr hbe).get (tall_nil_iff (by omega))
      obtain ⟨c0, c1, c2, c3⟩ := tok_cells hc ht
      have e1 : (k : Int) < body.length := by omega
      have hbw := hbl.lt
      by_cases hbar : t.kind = 4 ∨ t.kind = 5
      · have hsl : s < body.length := by omega
        obtain ⟨pt, hpt⟩ : ∃ pt, body[s]? = some pt := ⟨_, List.getElem?_eq_getElem hsl⟩
        have hnt : ¬ isName t := by unfold isName; omega
        have hdt : body.drop s = (body.drop s).take (k - s) ++ t :: body.drop (k + 1) := by
          conv => lhs; rw [← List.take_append_drop (k - s) (body.drop s)]
          rw [List.drop_drop, show s + (k - s) = k by omega, List.drop_eq_getElem_cons hlt]
          have : body[k] = t := by rw [List.getElem?_eq_getElem hlt] at ht; exact Option.some.inj ht
          rw [this]
        have hhd : (body.drop s).headD d = pt := by
          rw [List.drop_eq_getElem_cons hsl]
          have : body[s] = pt := by rw [List.getElem?_eq_getElem hsl] at hpt; exact Option.some.inj hpt
          rw [this]; rfl
        have hnms : ∀ x ∈ (body.drop s).take (k - s), isName x ∧ FairT x := by
          intro x hx
          obtain ⟨j, hj, e⟩ := List.getElem_of_mem hx
          rw [List.length_take, List.length_drop] at hj
          have hxj : body[s + j]? = some x := by
            rw [List.getElem_take, List.getElem_drop] at e
            rw [List.getElem?_eq_getElem (by omega), e]
          exact ⟨HB.out (s + j) x (by omega) (by omega) hxj, (HF.out x (List.mem_of_getElem? hxj)).1⟩
        have hstep : partsF ns left body ts (ls.map Lay.plain) [] (body.headD d) = match prodF ns left ((body.drop s).take (k - s)) pt ts' (ls'.map Lay.plain) with
            | .inr e => .inr e
            | .inl (ts2, ps2) => partsF ns left (body.drop (k + 1)) ts2 ps2 [] ((body.drop (k + 1)).headD pt) := by
          rw [HR.out, hhd]
          conv => lhs; rw [hdt]
          exact parts_prod ns left _ t _ ts' _ pt (fun x hx => (hnms x hx).1) hnt
        have hlenN : ((body.drop s).take (k - s)).length = k - s := by rw [List.length_take, List.length_drop]; omega
        have hun := (HU.out).sub s (k - s)
        obtain ⟨p0, p1, p2, p3⟩ := tok_cells hc hpt
        obtain ⟨tk, tt, tln, tc⟩ := t
        obtain ⟨pk, ptt, pln, pc⟩ := pt
        simp only at c0 c1 c2 c3 p0 p1 p2 p3 hbar
        have hk45 : (((tk : Int) == 4) = true) ∨ (((tk : Int) == 4) = false ∧ ((tk : Int) == 5) = true) := by
          rcases hbar with h | h
          · left; simp [h]
          · right; simp [h]
        have hS : Below wr.heap.size wr (wr.alloc (.cells #[.int .i64 tk, .string ⟨tt.toArray⟩, .int .i64 tln, .int .i64 tc] 124)) := (Below.refl _ _).alloc (Nat.le_refl _) _
        have hbeS := hbe.alloc (Nat.le_of_lt hbw) (.cells #[.int .i64 tk, .string ⟨tt.toArray⟩, .int .i64 tln, .int .i64 tc] 124)
        have hap := addProd_any (w := (wr.alloc (.cells #[.int .i64 tk, .string ⟨tt.toArray⟩, .int .i64 tln, .int .i64 tc] 124)).drew) left (some ⟨bb, off + s * 4, none⟩) (cap - s) ((body.drop s).take (k - s)) ⟨pk, ptt, pln, pc⟩ ((hbl.below hS).below (Below.refl _ _).drew) hnn hnms (hun.trans hbeS.drew) (by omega) hl24
        unfold tokV ProdEnd at hap
        rw [hlenN] at hap
        simp only at hap
        have hcs : s < cap := by omega
        have i1 : (0 : Int) ≤ s := by omega
        have i2 : (s : Int) ≤ k := by omega
        have i3 : (k : Int) ≤ cap := by omega
        have i4 : (s : Int) < body.length := by omega
        have i5 : ¬ cap = s := by omega
        have i6 : ((k : Int) - s).toNat = k - s := by omega
        cases hpf : prodF ns left ((body.drop s).take (k - s)) ⟨pk, ptt, pln, pc⟩ ts' (ls'.map Lay.plain) with
        | inr x =>
          rw [hpf] at hap hstep
          simp only at hap hstep
          have HST := Lib.hid hstep
          have HAP := Lib.hid hap
          have HBS := Lib.hid hbeS
          clear hap hbeS hstep hun hnms hhd hdt hnt hpt ht hc hS hbar hft HB HR hlenN hpf
          rcases hk45 with hk4 | ⟨hk4, hk5⟩
          all_goals
            go_wp2
            go_region_dies
            all_goals
              go_at_call 112
              with_reducible refine HAP.out.mono ?_
              rintro e w2 ⟨hb2, rfl⟩
              exact ⟨rfl, HBS.out.drew.trans hb2, by unfold PartsEnd; rw [HST.out]⟩
        | inl y =>
          obtain ⟨ts2, ps2⟩ := y
          have hpl := prod_len hpf
          rw [hpf] at hap hstep
          simp only at hap hstep hpl
          have HST := Lib.hid hstep
          have HAP := Lib.hid hap
          have HBS := Lib.hid hbeS
          clear hap hbeS hstep hun hnms hhd hdt hnt hpt ht hc hS hbar hft HB HR hlenN hpf
          rcases hk45 with hk4 | ⟨hk4, hk5⟩
          all_goals
            go_wp2
            go_region_law (first
              | (go_simp
                 go_at_call 112
                 with_reducible refine HAP.out.mono ?_
                 rintro e w2 ⟨hb2, rfl, hn2, at2, ap2, ct2, cp2, ls2, hbl2, hls2⟩))
            all_goals
              have hrel := HBS.out.drew.trans hb2
              have H1 : Hid (partsF ns left body ts (ls.map Lay.plain) [] (body.headD d) = partsF ns left (body.drop (k + 1)) ts2 (ls2.map Lay.plain) [] ((body.drop (k + 1)).headD d)) := Lib.hid (by rw [HST.out, hls2]; exact parts_head ..)
              have HL2 := Lib.hid hls2
              clear hls2
              go_wp2
              go_roundw
              case rel => exact ⟨k + 1, k + 1, ts2, at2, ap2, ct2, cp2, ls2, by omega, by omega, by go_num, by go_num, by have := congrArg List.length HL2.out; simp only [List.length_map] at this; omega, hbl2, hn2, hrel, H1, Lib.hid (by intro j t h1 h2; omega)⟩
              case measure => simp [intOf]; omega
      · have hk4 : ((t.kind : Int) == 4) = false := by simp; omega
        have hk5 : ((t.kind : Int) == 5) = false := by simp; omega
        have hname : isName t := by have h1 := hft.1.one; have h5 := hft.1.five; have := hft.2; unfold isName; omega
        have HB2 : Hid (∀ j t, s ≤ j → j < k + 1 → body[j]? = some t → isName t) := Lib.hid fun j u hsj hj hu => by
          by_cases hjk : j = k
          · subst hjk; rw [ht] at hu; cases hu; exact hname
          · exact HB.out j u hsj (by omega) hu
        have hal : ∀ o, Below b w (wr.alloc o) := fun o => hbe.alloc (Nat.le_of_lt hbw) o
        have hbo : ∀ o, Bld b (wr.alloc o) ts' ns ls' at' an ap' ct' cn cp' := fun o => hbl.alloc o
        have HAL := Lib.hid hal
        have HBO := Lib.hid hbo
        clear hal hbo hbar hft hname hc ht HB
        go_wp2
        go_roundw
        case rel => exact ⟨k + 1, s, ts', at', ap', ct', cp', ls', by omega, by omega, by go_num, rfl, hl24, HBO.out _, hnn, HAL.out _, HR, HB2⟩
        case measure => simp [intOf]; omega
    · have hsb : s = body.length := by
        rcases Nat.lt_or_ge s body.length with hs | hs
        · exfalso
          have hg : body.getLast? = body[body.length - 1]? := List.getLast?_eq_getElem? 
          have hx : body[body.length - 1]? = some (body[body.length - 1]'(by omega)) := List.getElem?_eq_getElem (by omega)
          have h5 := HL.out _ (hg.trans hx)
          have hn := HB.out (body.length - 1) _ (by omega) (by omega) hx
          unfold isName at hn
          omega
        · omega
      have hend : partsF ns left (body.drop s) ts' (ls'.map Lay.plain) [] ((body.drop s).headD d) = .inl (ts', ls'.map Lay.plain) := by rw [List.drop_of_length_le (by omega)]; rfl
      have HD := Lib.hid (HR.out.trans hend)
      have e1 : ¬ (k : Int) < body.length := by omega
      clear hend hsb HR HB
      go_wp2
      go_end0
      refine ⟨hbe, ?_⟩
      unfold PartsEnd
      rw [HD.out]
      exact ⟨rfl, hnn, by simpa using hl24, _, _, _, _, _, hbl, rfl⟩
end

end Go.Proofs.Ytdnlbmdmaiacaaa
