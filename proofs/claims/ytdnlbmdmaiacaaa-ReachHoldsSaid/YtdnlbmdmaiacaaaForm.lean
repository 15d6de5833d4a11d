/- refuse, mayStand, checkForm: the first token that may not stand at its place ends the call by a panic. -/
import Derived.Test.YtdnlbmdmaiacaaaSay
import Derived.Test.YtdnlbmdmaiacaaaCells
namespace Go.Proofs.Ytdnlbmdmaiacaaa
open Go.RowKit
open Doc

/-- A token's value. -/
def tokV (t : Tok) : Value := .agg #[.int .i64 t.kind, .string ⟨t.text.toArray⟩, .int .i64 t.line, .int .i64 t.col]
/-- What is thrown by a call that refuses. -/
def faultV (line col e : Nat) : Value := .iface 76 (.agg #[.int .i64 line, .int .i64 col, .int .i64 e])

theorem refuse_any (t : Tok) (k : Nat) (w : World) :
    Calls Try.prog 111 #[tokV t, .int .i64 k] w fun e w' => e = .panicked [{ v := faultV t.line t.col k, recovered := false }] ∧ Below w.heap.size w w' := by
  unfold tokV
  go_enter Try.func111, Try.ntmps111
  go_wp2
  exact ⟨rfl, rfl, (Below.refl _ _).alloc (Nat.le_refl _) _⟩

def mayB (k p : Nat) : Bool := if p = 0 then k == 1 || k == 5 else if p = 1 then k == 3 else k != 3

theorem mayStand_any (k p : Nat) (w : World) :
    Calls Try.prog 110 #[.int .i64 k, .int .i64 p] w fun e w' => e = .returned (.bool (mayB k p)) ∧ w' = w := by
  go_enter Try.func110, Try.ntmps110
  go_wp2
  all_goals
    go_ret
    refine ⟨ret_bool ?_, rfl⟩
    rw [Bool.eq_iff_iff]
    unfold mayB
    simp at *
    split <;> (try split) <;> (try simp) <;> (try omega)

/-- The first token that may not stand, the place within the line being p. -/
def badF : List Tok → Nat → Option Tok
  | [], _ => none
  | t :: l, p => if mayB t.kind p = true then badF l (if t.kind = 5 then 0 else p + 1) else some t

def placeOf : At → Nat → Prop
  | .start, p => p = 0
  | .named _, p => p = 1
  | .parts _ _, p => 2 ≤ p

theorem bad_rule : ∀ (l : List Tok) (a : At) (p : Nat), placeOf a p → badF l p = (ruleF l a).2
  | [], a, p, _ => by cases a <;> rfl
  | t :: l, .start, p, h => by
    have h : p = 0 := h
    subst h
    simp only [badF, ruleF, mayB]
    by_cases h5 : t.kind = 5
    · simp [h5, bad_rule l .start 0 rfl]
    · by_cases h1 : t.kind = 1
      · simp [h1, bad_rule l (.named t) 1 rfl]
      · simp [h5, h1]
  | t :: l, .named n, p, h => by
    have h : p = 1 := h
    subst h
    simp only [badF, ruleF, mayB]
    by_cases h3 : t.kind = 3
    · simp [h3, bad_rule l (.parts n []) 2 (Nat.le_refl 2)]
    · simp [h3]
  | t :: l, .parts n r, p, h => by
    have h : 2 ≤ p := h
    have h0 : ¬ p = 0 := by omega
    have h1 : ¬ p = 1 := by omega
    simp only [badF, ruleF, mayB, if_neg h0, if_neg h1]
    by_cases h3 : t.kind = 3
    · simp [h3]
    · by_cases h5 : t.kind = 5
      · simp [h5, bad_rule l .start 0 rfl]
      · simp [h3, h5, bad_rule l (.parts n (r ++ [t])) (p + 1) (show 2 ≤ p + 1 by omega)]

theorem tok_cells {w : World} {b off : Nat} {l : List Tok} (h : ∀ j u, (tall l)[j]? = some u → w.cell? ⟨b, off + j, none⟩ = some u) {j : Nat} {t : Tok} (ht : l[j]? = some t) :
    w.cell? ⟨b, off + j * 4, none⟩ = some (.int .i64 t.kind) ∧ w.cell? ⟨b, off + j * 4 + 1, none⟩ = some (.string ⟨t.text.toArray⟩) ∧
    w.cell? ⟨b, off + j * 4 + 2, none⟩ = some (.int .i64 t.line) ∧ w.cell? ⟨b, off + j * 4 + 3, none⟩ = some (.int .i64 t.col) := by
  have ta := tall_at l j t ht
  refine ⟨h _ _ ta.1, ?_, ?_, ?_⟩
  · rw [Nat.add_assoc]; exact h _ _ ta.2.1
  · rw [Nat.add_assoc]; exact h _ _ ta.2.2.1
  · rw [Nat.add_assoc]; exact h _ _ ta.2.2.2

theorem tall_nil_iff {l : List Tok} (h : 0 < l.length) : tall l ≠ [] := by
  intro e
  have := tall_length l
  rw [e] at this
  simp only [List.length_nil] at this
  omega

/-- How checkForm ends. -/
def FormEnd (l : List Tok) (e : Ending) : Prop :=
  match badF l 0 with
  | none => e = .returned (.tuple #[])
  | some t => e = .panicked [{ v := faultV t.line t.col 2, recovered := false }]

set_option maxHeartbeats 1000000 in
theorem checkForm_any (a : Option Addr) (cap : Nat) (l : List Tok) (w : World) (h : Cells w a (tall l)) (hl : l.length ≤ 4000000) :
    Calls Try.prog 89 #[.slice a l.length cap] w fun e w' => FormEnd l e ∧ Below w.heap.size w w' := by
  have HH := Lib.hid h
  clear h
  go_enter Try.func89, Try.ntmps89
  go_wp2
  go_loopw [2, 7] (fun pl i wr => ∃ k p : Nat, k ≤ l.length ∧ p ≤ k ∧ i = .int .i64 k ∧ pl = .int .i64 p ∧ Below w.heap.size w wr ∧ Hid (badF l 0 = badF (l.drop k) p)) (fun _ i _ => l.length - (intOf i).toNat)
  case atStart => exact ⟨0, 0, Nat.zero_le _, Nat.le_refl _, rfl, rfl, Below.refl _ _, Lib.hid (by simp)⟩
  case round =>
    obtain ⟨k, p, hk, hp, rfl, rfl, hb, HB⟩ := hrel
    by_cases hlt : k < l.length
    · obtain ⟨t, ht⟩ : ∃ t, l[k]? = some t := ⟨_, List.getElem?_eq_getElem hlt⟩
      have hd : badF (l.drop k) p = if mayB t.kind p = true then badF (l.drop (k + 1)) (if t.kind = 5 then 0 else p + 1) else some t := by
        rw [List.drop_eq_getElem_cons hlt]
        have : l[k] = t := by rw [List.getElem?_eq_getElem hlt] at ht; exact Option.some.inj ht
        rw [this]; rfl
      obtain ⟨b, off, rfl, hbl, hc⟩ := (HH.out.below hb).get (tall_nil_iff (by omega))
      obtain ⟨c0, c1, c2, c3⟩ := tok_cells hc ht
      have e1 : (k : Int) < l.length := by omega
      have HW := Lib.hid (fun o => hb.alloc hb.size o)
      clear hc
      cases hm : mayB t.kind p with
      | true =>
        rw [hm, if_pos rfl] at hd
        have HD := Lib.hid (HB.out.trans hd)
        clear hd HB ht
        by_cases h5 : t.kind = 5
        · rw [if_pos h5] at HD
          have h5' : ((t.kind : Int) == 5) = true := by simp [h5]
          clear h5
          go_wp2_with (first | (go_at_call 110; refine (mayStand_any t.kind p _).mono ?_; rintro e w2 ⟨rfl, rfl⟩; simp only [hm]))
          go_roundw
          case rel => exact ⟨k + 1, 0, by omega, by omega, by go_num, rfl, HW.out _, HD⟩
          case measure => simp [intOf]; omega
        · rw [if_neg h5] at HD
          have h5' : ((t.kind : Int) == 5) = false := by simp; omega
          clear h5
          go_wp2_with (first | (go_at_call 110; refine (mayStand_any t.kind p _).mono ?_; rintro e w2 ⟨rfl, rfl⟩; simp only [hm]))
          go_roundw
          case rel => exact ⟨k + 1, p + 1, by omega, by omega, by go_num, by go_num, HW.out _, HD⟩
          case measure => simp [intOf]; omega
      | false =>
        rw [hm] at hd
        have HD := Lib.hid (HB.out.trans hd)
        clear hd HB ht
        go_wp2_with (first | (go_at_call 110; refine (mayStand_any t.kind p _).mono ?_; rintro e w2 ⟨rfl, rfl⟩; simp only [hm]) | (go_at_call 111; refine (refuse_any t 2 _).mono ?_; rintro e w2 ⟨rfl, hb2⟩))
        refine ⟨rfl, ?_, (HW.out _).trans (hb2.mono (HW.out _).size)⟩
        unfold FormEnd
        rw [HD.out]
        rfl
    · have hend : badF (l.drop k) p = none := by rw [List.drop_of_length_le (by omega)]; rfl
      have HD := Lib.hid (HB.out.trans hend)
      have e1 : ¬ (k : Int) < l.length := by omega
      clear HB hend
      go_wp2
      go_end0
      refine ⟨?_, hb⟩
      unfold FormEnd
      rw [HD.out]

end Go.Proofs.Ytdnlbmdmaiacaaa
