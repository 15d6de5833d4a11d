/- wakes of chapter 7. -/
import Derived.Test.YtflfmcikfiaoiaaPlay
import Derived.Test.YtflfmcikfiaoiaaWordL
import Derived.Test.YtflfmcikfiaoiaaWake
set_option linter.unusedVariables false
namespace Go.Proofs.Ytflfmcikfiaoiaa
open Go.RowKit
open Doc

def wg7 : Gr := ⟨[[97], [98]], [[83]], [(100, [1, 100]), (100, [2])]⟩
theorem wg7_parse : parse (textsL.getD ((1 : Int) % 17).toNat []) = .ok wg7 := by decide +kernel
theorem wg7_check : CheckG wg7 := (chk_iff wg7).1 (by decide +kernel)
theorem wg7_least : Wd.leastF wg7 = [some [2]] := by decide +kernel
theorem one_word {ls : List WL} {x : List Int} (h : kn ls = [some x]) : ∃ a c, ls = [⟨x, true, a, c⟩] := by
  match ls, h with
  | [], h => simp [kn] at h
  | _ :: _ :: _, h => simp [kn] at h
  | [p], h =>
    have h : p.opt = some x := by simpa [kn] using h
    obtain ⟨pw, pk, pa, pc⟩ := p
    unfold WL.opt at h
    simp only at h
    cases pk with
    | true => rw [if_pos rfl] at h; cases h; exact ⟨pa, pc, rfl⟩
    | false => cases h

set_option maxRecDepth 100000 in
set_option maxHeartbeats 400000 in
theorem wakes7_any (w : World) : Calls Try.prog 37 #[] w fun e w' => e = .returned (.bool true) ∧ Below w.heap.size w w' := by
  have HGO := Lib.hid ((good_any 1 w).mono fun e w' ⟨hb, ts, ns, ls, at_, an, ap, ct, cn, cp, he, hr, hp⟩ => (by
    rw [wg7_parse] at hp
    have hg : wg7 = ⟨ts, ns, ls.map Lay.plain⟩ := End.ok.inj hp
    exact ⟨hb, _, he, by rw [hg]; exact hr.gram⟩ : Below w.heap.size w w' ∧ ∃ v, e = Ending.returned v ∧ GramAt w' v wg7))
  have HLE := Lib.hid fun v W (h : GramAt W v wg7) => (least_any v wg7 W h wg7_check).mono fun e w' ⟨hb, b, ls, he, hk, hl, ho, _⟩ => (by
    rw [wg7_least] at hk
    obtain ⟨a, c, rfl⟩ := one_word hk
    exact ⟨hb, b, a, c, he, (blk_cell (i := 0) (u := Value.slice a 1 c) ho.q rfl).1, heap_lt ho.q, ho.r _ List.mem_cons_self⟩ : Below W.heap.size W w' ∧ ∃ b a c, e = Ending.returned (.tuple #[.slice (some ⟨b, 0, none⟩) 1 1, .int .i64 0]) ∧ w'.cell? ⟨b, 0, none⟩ = some (Value.slice a 1 c) ∧ b < w'.heap.size ∧ Cells w' a (nums [2]))
  have HL1 : Hid (Wd.lessI [2] [1, 1] = true) := Lib.hid (by decide)
  go_enter Try.func37, Try.ntmps37
  go_upto_region 2 with (first
    | (go_at_call 47; refine HGO.out.mono ?_; rintro e w2 ⟨hb2, v, rfl, hg2⟩)
    | (go_at_call 33; refine (HLE.out _ _ hg2).mono ?_; rintro e w3 ⟨hb3, b, a, c, rfl, hc, hl3, hr3⟩))
  have HBW := Lib.hid (hb2.trans (hb3.mono hb2.size))
  have hbA := (Below.refl w3.heap.size w3).alloc (Nat.le_refl _) (.cells #[.int .i64 2] 3)
  have HSM := Lib.hid ((keepSame_any a (some ⟨w3.heap.size, 0, none⟩) c 1 [2] [2] (w3.alloc (.cells #[.int .i64 2] 3)) (hr3.below hbA) (cells_new w3 _ _) (by decide) (by decide)).mono fun e w' ⟨he, n, hn⟩ => (⟨he, n, hn⟩ : e = Ending.returned (.bool true) ∧ ∃ n, w' = (w3.alloc (.cells #[.int .i64 2] 3)).drewN n))
  have HB4 := Lib.hid (HBW.out.trans (hbA.mono HBW.out.size))
  clear hb2 hb3 hg2 hr3 hbA HGO HLE
  go_wp2_with (first
    | (go_at_call 32; refine HSM.out.mono ?_; rintro e w4 ⟨rfl, n4, hw4⟩; have HB5 := Lib.hid (below_drews HB4.out n4); rw [← hw4] at HB5; clear hw4 HB4 HBW HSM)
    | (go_at_call 35; refine (wless_any (some ⟨w4.heap.size, 0, none⟩) (some ⟨w4.heap.size + 1, 0, none⟩) 1 2 [2] [1, 1] _ ((cells_new w4 (#[.int .i64 2] : Array Value) 3).below ((Below.refl _ _).alloc (Nat.le_refl _) _)) (cells_new2 w4 _ _ _) (by decide) (by decide)).mono ?_; rintro e w5 ⟨rfl, hw5⟩; obtain rfl := hw5.symm; rw [HL1.out]))
  go_ret
  exact ⟨rfl, (HB5.out.alloc HB5.out.size _).alloc (by simp; have := HB5.out.size; omega) _⟩

end Go.Proofs.Ytflfmcikfiaoiaa
