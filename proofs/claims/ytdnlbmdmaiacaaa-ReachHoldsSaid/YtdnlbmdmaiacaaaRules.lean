/- rules: the lines of tokens. -/
import Derived.Test.YtdnlbmdmaiacaaaForm
import Derived.Laws.Rows
namespace Go.Proofs.Ytdnlbmdmaiacaaa
open Go.RowKit
open Doc

/-- The lines of tokens: where each begins, how long it is: from place i on, the line's start being st. -/
def cutF : List Tok → Nat → Nat → List (Nat × Nat)
  | [], _, _ => []
  | t :: l, i, st => if t.kind = 5 then (if st < i then (st, i + 1 - st) :: cutF l (i + 1) (i + 1) else cutF l (i + 1) (i + 1)) else cutF l (i + 1) st

/-- A line's value. -/
def ruV (a : Option Addr) (cap : Nat) (p : Nat × Nat) : Value := .slice (a.map fun x => ⟨x.block, x.off + p.1 * 4, none⟩) p.2 (cap - p.1)

theorem infoL : (Try.prog.info? 115).map (fun i => (i.zero, i.size, i.bytes)) = some (some (.slice none 0 0), 1, 24) := by kernel_rfl
theorem info_of' {i : Option TypeInfo} {z : Option Value} {a b : Nat} (h : i.map (fun i => (i.zero, i.size, i.bytes)) = some (z, a, b)) : ∃ j, i = some j ∧ j.zero = z ∧ j.size = a ∧ j.bytes = b := by
  cases i with
  | none => cases h
  | some j => simp only [Option.map_some, Option.some.injEq, Prod.mk.injEq] at h; exact ⟨j, rfl, h.1, h.2.1, h.2.2⟩

theorem own_block' {w : World} {B e size n : Nat} {v : Value} {xs : List Value} (h : w.ownsRow B e size v n xs) {g : Nat} (hg : v.ownBlock = some g) : B ≤ g := by
  rcases h.2 with ⟨hv, _⟩ | ⟨g', cap, cur, hv, hB, hgg, rest⟩
  · rw [hv] at hg; cases hg
  · rw [hv] at hg
    have : g' = g := by simpa [Value.ownBlock] using hg
    omega

set_option maxRecDepth 100000 in
set_option maxHeartbeats 4000000 in
theorem rules_any (a : Option Addr) (cap : Nat) (l : List Tok) (w : World) (h : Cells w a (tall l)) (hl : l.length ≤ 4000000) (hcap : l.length ≤ cap) (hc4 : cap ≤ maxLen) :
    Calls Try.prog 90 #[.slice a l.length cap] w fun e w' => Below w.heap.size w w' ∧ ∃ v, e = .returned v ∧ w'.ownsRow w.heap.size 115 1 v (cutF l 0 0).length ((cutF l 0 0).map (ruV a cap)) := by
  obtain ⟨i0, hi, hz0, hz1, hz2⟩ := info_of' infoL
  unfold maxLen at hc4
  have HH := Lib.hid h
  clear h
  obtain ⟨B, hB⟩ : ∃ B, B = w.heap.size := ⟨_, rfl⟩
  rw [← hB]
  have HEB := Lib.hid hB
  clear hB
  go_enter Try.func90, Try.ntmps90
  go_wp2
  go_loopw [3, 4, 9] (fun v st i wr => ∃ (k s : Nat) (ps : List (Nat × Nat)), k ≤ l.length ∧ s ≤ k ∧ i = .int .i64 k ∧ st = .int .i64 s ∧ ps.length ≤ k ∧ wr.ownsRow B 115 1 v ps.length (ps.map (ruV a cap)) ∧ Below B w wr ∧ Hid (cutF l 0 0 = ps ++ cutF (l.drop k) k s)) (fun _ _ i _ => l.length - (intOf i).toNat)
  case atStart => exact ⟨0, 0, [], Nat.zero_le _, Nat.le_refl _, rfl, rfl, Nat.le_refl _, World.ownsRow_nil _ _ _ _, Below.refl _ _, Lib.hid (by simp)⟩
  case round =>
    obtain ⟨k, s, ps, hk, hsk, rfl, rfl, hps, hown, hbe, HR⟩ := hrel
    by_cases hlt : k < l.length
    · obtain ⟨t, ht⟩ : ∃ t, l[k]? = some t := ⟨_, List.getElem?_eq_getElem hlt⟩
      have hd : cutF (l.drop k) k s = if t.kind = 5 then (if s < k then (s, k + 1 - s) :: cutF (l.drop (k + 1)) (k + 1) (k + 1) else cutF (l.drop (k + 1)) (k + 1) (k + 1)) else cutF (l.drop (k + 1)) (k + 1) s := by
        rw [List.drop_eq_getElem_cons hlt]
        have : l[k] = t := by rw [List.getElem?_eq_getElem hlt] at ht; exact Option.some.inj ht
        rw [this]; rfl
      obtain ⟨bb, off, rfl, hbbl, hc⟩ := (HH.out.below (HEB.out ▸ hbe)).get (tall_nil_iff (by omega))
      obtain ⟨c0, c1, c2, c3⟩ := tok_cells hc ht
      have e1 : (k : Int) < l.length := by omega
      have hBr : B ≤ wr.heap.size := by have := hbe.size; have := HEB.out; omega
      have HD := Lib.hid (HR.out.trans (by rw [hd]))
      clear hc ht hd HR
      have hal : ∀ o, Below B w (wr.alloc o) := fun o => hbe.alloc hBr o
      have HAL := Lib.hid hal
      have HNW := Lib.hid (fun o o' => (by have := heap_alloc_new (wr.alloc o) o'; simpa using this : ((wr.alloc o).alloc o').heap[wr.heap.size + 1]? = some o'))
      clear hal
      by_cases h5 : t.kind = 5
      · have h5b : ((t.kind : Int) != 5) = false := by simp [h5]
        rw [if_pos h5] at HD
        by_cases hsk2 : s < k
        · rw [if_pos hsk2] at HD
          have g1 : (s : Int) < k := by omega
          have i1 : (0 : Int) ≤ s := by omega
          have i2 : (s : Int) ≤ k + 1 := by omega
          have i3 : (k : Int) + 1 ≤ cap := by omega
          have i5 : ¬ cap = s := by omega
          have i6 : ((k : Int) + 1 - s).toNat = k + 1 - s := by omega
          have HD2 := Lib.hid HD.out
          clear h5 HD hsk2
          go_wp2_with (at_builtin; refine wpList_append_own _ rfl (.tmp 20) (.tmp 26) 119 rfl B 115 i0 (.slice none 0 0) 1 24 Try.underlying119 hi hz0 hz1 hz2 rfl (by decide) _ ps.length (ps.map (ruV (some ⟨bb, off, none⟩) cap)) rfl ((hown.alloc _).alloc _) ⟨wr.heap.size + 1, 0, none⟩ 1 1 [.slice (some ⟨bb, off + s * 4, none⟩) (k + 1 - s) (cap - s)] rfl rfl (World.news_of_block (cs := #[.slice (some ⟨bb, off + s * 4, none⟩) (k + 1 - s) (cap - s)]) (t := 115) (fr := (0, 0)) (HNW.out _ _)) (by simp [Value.oneCell']) (by unfold maxLen; omega) (by omega) (by simp; omega) ?_; intro v3 w3 hown3 hgrow3 _)
          go_roundw
          case rel => exact ⟨k + 1, k + 1, ps ++ [(s, k + 1 - s)], by omega, by omega, by go_num, by go_num, by simp; omega, by simpa [ruV] using hown3, ((HAL.out _).alloc (by simp; omega) _).grown hgrow3 (by simp; omega) (fun g hg => (own_block' hown hg)), Lib.hid (by rw [HD2.out]; simp)⟩
          case measure => simp [intOf]; omega
        · rw [if_neg hsk2] at HD
          have g1 : ¬ (s : Int) < k := by omega
          have HD2 := Lib.hid HD.out
          have HOA := Lib.hid (fun o => hown.alloc o)
          clear h5 HD hsk2
          go_wp2
          go_roundw
          case rel => exact ⟨k + 1, k + 1, ps, by omega, by omega, by go_num, by go_num, by omega, HOA.out _, HAL.out _, HD2⟩
          case measure => simp [intOf]; omega
      · have h5b : ((t.kind : Int) != 5) = true := by simp; omega
        rw [if_neg h5] at HD
        have HD2 := Lib.hid HD.out
        have HOA := Lib.hid (fun o => hown.alloc o)
        clear h5 HD
        go_wp2
        go_roundw
        case rel => exact ⟨k + 1, s, ps, by omega, by omega, by go_num, rfl, by omega, HOA.out _, HAL.out _, HD2⟩
        case measure => simp [intOf]; omega
    · have hend : cutF (l.drop k) k s = [] := by rw [List.drop_of_length_le (by omega)]; rfl
      have HD := Lib.hid (show cutF l 0 0 = ps by rw [HR.out, hend]; simp)
      have e1 : ¬ (k : Int) < l.length := by omega
      clear hend HR
      go_wp2
      go_ret
      exact ⟨hbe, _, rfl, by rw [HD.out]; exact hown⟩

end Go.Proofs.Ytdnlbmdmaiacaaa
