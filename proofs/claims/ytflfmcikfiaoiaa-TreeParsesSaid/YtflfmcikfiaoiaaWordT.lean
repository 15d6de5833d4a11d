/- word: settle: walked. -/
import Derived.Test.YtflfmcikfiaoiaaWordR
import Derived.Deep.CutRange
set_option linter.unusedVariables false
namespace Go.Proofs.Ytflfmcikfiaoiaa
open Go.RowKit
open Doc

theorem own_baseW {w : World} {B B' e size n : Nat} {v : Value} {xs : List Value} (h : w.ownsRow B e size v n xs) (hB : B' ≤ B) : w.ownsRow B' e size v n xs := by
  refine ⟨h.1, ?_⟩
  rcases h.2 with h2 | ⟨g, cap, cur, hv, hb, rest⟩
  · exact .inl h2
  · exact .inr ⟨g, cap, cur, hv, Nat.le_trans hB hb, rest⟩
/-- The least words as they lie in a block of their own, each known one's row behind it. -/
structure LAt (w : World) (B : Nat) (ls : List WL) : Prop where
  q : w.heap[B]? = some (.cells (wls ls).toArray 119)
  r : ∀ p ∈ ls, p.known = true → w.ownsRow (B + 1) 3 1 (.slice p.addr p.word.length p.cap) p.word.length (nums p.word) ∧ p.word.length ≤ 100000000
  z : ∀ p ∈ ls, p.known = false → p = ⟨[], false, none, 0⟩
theorem LAt.keep {w w' : World} {B : Nat} {ls : List WL} (h : LAt w B ls) (hk : ∀ g, g < w.heap.size → w'.heap[g]? = w.heap[g]?) : LAt w' B ls :=
  ⟨(hk B (heap_lt h.q)).trans h.q, fun p hp hn => ⟨own_same (h.r p hp hn).1 fun g _ hl => hk g hl, (h.r p hp hn).2⟩, h.z⟩
theorem LAt.cells {w : World} {B : Nat} {ls : List WL} (h : LAt w B ls) : Cells w (some ⟨B, 0, none⟩) (wls ls) := .inr ⟨B, 0, rfl, heap_lt h.q, fun j u hj => by
  rw [Nat.zero_add]; exact (blk_cell h.q (by simpa using hj)).1⟩
theorem LAt.rows {w : World} {B : Nat} {ls : List WL} (h : LAt w B ls) : WRows w ls := fun p hp hk => ⟨(own_cells (h.r p hp hk).1).1, (h.r p hp hk).2⟩
theorem wls_set {l : List WL} {j : Nat} (hj : j < l.length) (q : WL) : wls (l.set j q) = ((wls l).set (j * 2) (.slice q.addr q.word.length q.cap)).set (j * 2 + 1) (.bool q.known) := by
  induction l generalizing j with
  | nil => simp at hj
  | cons p l ih =>
    cases j with
    | zero => rfl
    | succ j =>
      have e1 : wls (p :: l) = .slice p.addr p.word.length p.cap :: .bool p.known :: wls l := rfl
      have e2 : wls ((p :: l).set (j + 1) q) = .slice p.addr p.word.length p.cap :: .bool p.known :: wls (l.set j q) := rfl
      rw [e1, e2, ih (by simpa using hj), show (j + 1) * 2 = j * 2 + 1 + 1 by omega]
      rfl
/-- One more is put in. -/
theorem LAt.put {w : World} {B : Nat} {ls : List WL} (h : LAt w B ls) {j : Nat} (hj : j < ls.length) {v : List Int} {a : Option Addr} {c : Nat} (ho : w.ownsRow (B + 1) 3 1 (.slice a v.length c) v.length (nums v)) (hv : v.length ≤ 100000000) :
    LAt ((w.setCell ⟨B, j * 2, none⟩ (.slice a v.length c)).setCell ⟨B, j * 2 + 1, none⟩ (.bool true)) B (ls.set j ⟨v, true, a, c⟩) := by
  have hw := wls_len ls
  have q1 := heap_set w B (j * 2) (.slice a v.length c) _ _ h.q (by simp; omega)
  have q2 := heap_set _ B (j * 2 + 1) (.bool true) _ _ q1 (by simp; omega)
  have keep : ∀ {p : WL}, w.ownsRow (B + 1) 3 1 (.slice p.addr p.word.length p.cap) p.word.length (nums p.word) → ((w.setCell ⟨B, j * 2, none⟩ (.slice a v.length c)).setCell ⟨B, j * 2 + 1, none⟩ (.bool true)).ownsRow (B + 1) 3 1 (.slice p.addr p.word.length p.cap) p.word.length (nums p.word) := fun ho => own_same ho fun g hg _ => by
    have := (own_block ho hg).1
    exact (Below.heap_setCell _ _ _ _ (show g ≠ B by omega)).trans (Below.heap_setCell _ _ _ _ (show g ≠ B by omega))
  refine ⟨?_, fun p hp hk => ?_, fun p hp hk => ?_⟩
  · rw [q2, wls_set hj]
    simp
  · rcases List.mem_or_eq_of_mem_set hp with hp | rfl
    · exact ⟨keep (h.r p hp hk).1, (h.r p hp hk).2⟩
    · exact ⟨keep (p := ⟨v, true, a, c⟩) ho, hv⟩
  · rcases List.mem_or_eq_of_mem_set hp with hp | rfl
    · exact h.z p hp hk
    · cases hk
theorem kn_set {ls : List WL} {j : Nat} {v : List Int} {a : Option Addr} {c : Nat} : kn (ls.set j ⟨v, true, a, c⟩) = (kn ls).set j (some v) := by
  unfold kn; rw [List.map_set]; rfl

/-- What has been found by now. -/
def NextAt (w : World) (X : Nat) : Option (Nat × List Int) → Value → Prop
  | none, pv => pv = .int .i64 0 ∧ w.heap[X]? = some (.cells #[.slice none 0 0, .bool false] 119)
  | some (k, v), pv => pv = .int .i64 k ∧ ∃ a c, w.heap[X]? = some (.cells #[.slice a v.length c, .bool true] 119) ∧ w.ownsRow (X + 1) 3 1 (.slice a v.length c) v.length (nums v)
theorem NextAt.below {w w' : World} {X : Nat} {nx : Option (Nat × List Int)} {pv : Value} (h : NextAt w X nx pv) (hb : Below w.heap.size w w') : NextAt w' X nx pv := by
  cases nx with
  | none => exact ⟨h.1, (hb.block X (heap_lt h.2)).trans h.2⟩
  | some kv =>
    obtain ⟨k, v⟩ := kv
    obtain ⟨h1, a, c, h2, h3⟩ := h
    exact ⟨h1, a, c, (hb.block X (heap_lt h2)).trans h2, own_same h3 fun g _ hl => hb.block g hl⟩
theorem NextAt.lt {w : World} {X : Nat} {nx : Option (Nat × List Int)} {pv : Value} (h : NextAt w X nx pv) : X < w.heap.size := by
  cases nx with
  | none => exact heap_lt h.2
  | some kv => obtain ⟨_, _, _, h2, _⟩ := h; exact heap_lt h2
theorem NextAt.drew {w : World} {X : Nat} {nx : Option (Nat × List Int)} {pv : Value} (h : NextAt w X nx pv) : NextAt w.drew X nx pv := by
  cases nx with
  | none => exact h
  | some kv => obtain ⟨h1, a, c, h2, h3⟩ := h; exact ⟨h1, a, c, h2, own_same h3 fun _ _ _ => rfl⟩
theorem NextAt.put {w : World} {X : Nat} {u0 u1 : Value} (hq : w.heap[X]? = some (.cells #[u0, u1] 119)) {v : List Int} {a : Option Addr} {c : Nat} (ho : w.ownsRow (X + 1) 3 1 (.slice a v.length c) v.length (nums v)) (k : Nat) :
    NextAt ((w.setCell ⟨X, 0, none⟩ (.slice a v.length c)).setCell ⟨X, 1, none⟩ (.bool true)) X (some (k, v)) (.int .i64 k) := by
  have q1 := heap_set w X 0 (.slice a v.length c) _ _ hq (by simp)
  have q2 := heap_set _ X 1 (.bool true) _ _ q1 (by simp)
  refine ⟨rfl, a, c, by rw [q2]; simp, own_same ho fun g hg _ => ?_⟩
  have := (own_block ho hg).1
  exact (Below.heap_setCell _ _ _ _ (show g ≠ X by omega)).trans (Below.heap_setCell _ _ _ _ (show g ≠ X by omega))

def betterF (nx : Option (Nat × List Int)) (i : Nat) (v : List Int) : Option (Nat × List Int) := match nx with | none => some (i, v) | some (k', v') => if Wd.lessI v v' = true then some (i, v) else some (k', v')
theorem next_put {L : Wd.Kn} {nx : Option (Nat × List Int)} {ql : Int} {qr v : List Int} {i : Nat} (hk : (ql - 100).toNat = i) (h1 : Wd.known L i = none) (h2 : Wd.rowW L qr = some v) : Wd.nextStep L nx (ql, qr) = betterF nx i v := by
  unfold Wd.nextStep; simp only []; rw [hk, h1]; simp only []; rw [h2]; subst hk; rfl

set_option maxRecDepth 100000 in
set_option maxHeartbeats 8000000 in
theorem settle_any (pa : Option Addr) (pcap B : Nat) (qs : List Lay) (ls : List WL) (w : World) (hps : Cells w pa (lays qs)) (hq : ∀ q ∈ qs, Cells w q.addr (nums q.right) ∧ q.right.length ≤ 1000)
    (hin : ∀ q ∈ qs, (100 ≤ q.left ∧ q.left < 100 + (ls.length : Int)) ∧ ∀ s ∈ q.right, -1000000 ≤ s ∧ s < 100 + (ls.length : Int)) (hL : LAt w B ls)
    (hsh : ∀ k v, Wd.nextF (qs.map Lay.plain) (kn ls) = some (k, v) → k < ls.length ∧ v.length ≤ 100000000) (hqn : qs.length ≤ 1000) (hln : ls.length ≤ 1000) :
    Calls Try.prog 76 #[.slice pa qs.length pcap, .slice (some ⟨B, 0, none⟩) ls.length ls.length] w fun e w' => e = .returned (.bool (Wd.nextF (qs.map Lay.plain) (kn ls)).isSome) ∧ w.grownBy w' (some B) ∧ ∃ ls', kn ls' = Wd.settleF (qs.map Lay.plain) (kn ls) ∧ LAt w' B ls' ∧ ls'.length = ls.length := by
  have HPS := Lib.hid hps
  have HQ := Lib.hid hq
  have HIN := Lib.hid hin
  have HL := Lib.hid hL
  have HSH := Lib.hid hsh
  have lB := heap_lt hL.q
  have hbX := (Below.refl w.heap.size w).alloc (Nat.le_refl _) (.cells #[.slice none 0 0, .bool false] 119)
  have qX := heap_alloc_new w (.cells #[.slice none 0 0, .bool false] 119)
  have HBX := Lib.hid hbX
  have HQX := Lib.hid qX
  clear hps hq hin hL hsh hbX qX
  go_enter Try.func76, Try.ntmps76
  go_wp2
  generalize w.alloc (.cells #[.slice none 0 0, .bool false] 119) = S at *
  go_loopw [6, 13] (fun pv i wr => ∃ (k : Nat) (nx : Option (Nat × List Int)), k ≤ qs.length ∧ i = .int .i64 k ∧ Hid (Wd.nextF ((qs.map Lay.plain).take k) (kn ls) = nx) ∧ Hid (NextAt wr w.heap.size nx pv) ∧ Hid (Below w.heap.size w wr)) (fun _ i _ => qs.length - (intOf i).toNat)
  case atStart => exact ⟨0, none, Nat.zero_le _, rfl, Lib.hid rfl, Lib.hid ⟨rfl, HQX.out⟩, HBX⟩
  case round =>
    rename Value => pv
    obtain ⟨k, nx, hk, rfl, HNX, HNA, HB⟩ := hrel
    by_cases hlt : k < qs.length
    · obtain ⟨q, hqk⟩ : ∃ q, qs[k]? = some q := ⟨_, List.getElem?_eq_getElem hlt⟩
      have hqm := List.mem_of_getElem? hqk
      obtain ⟨b1, o1, rfl, hb1, hc1⟩ := (HPS.out.below HB.out).get (by intro e; have := (lays_at qs k q hqk).1; rw [e] at this; simp at this)
      have c0 := hc1 _ _ (lays_at qs k q hqk).1
      have c1 := hc1 _ _ (lays_at qs k q hqk).2
      rw [← Nat.add_assoc] at c1
      have e1 : (k : Int) < qs.length := by omega
      obtain ⟨⟨hl1, hl2⟩, hsy⟩ := HIN.out q hqm
      have HSY := Lib.hid hsy
      obtain ⟨i, hi⟩ := Int.eq_ofNat_of_zero_le (show 0 ≤ q.left - 100 by omega)
      have hil : i < ls.length := by omega
      have e4 : (i : Int) < ls.length := by omega
      obtain ⟨p, hp⟩ : ∃ p, ls[i]? = some p := ⟨_, List.getElem?_eq_getElem hil⟩
      have hkn := known_kn hp
      have hsz := HB.out.size
      have hbA := (Below.refl wr.heap.size wr).alloc (Nat.le_refl _) (.cells #[.int .i64 q.left, .slice q.addr q.right.length q.cap] 94)
      have qA := heap_alloc_new wr (.cells #[.int .i64 q.left, .slice q.addr q.right.length q.cap] 94)
      have HLX := HL.out.keep (w' := wr.alloc (.cells #[.int .i64 q.left, .slice q.addr q.right.length q.cap] 94)) fun g hl => (hbA.block g (by omega)).trans (HB.out.block g hl)
      have x1 := (blk_cell (i := i * 2 + 1) (u := .bool p.known) HLX.q (by simpa using (wls_at ls i p hp).2)).1
      have x2 := heap_lt HLX.q
      have z0 := (blk_cell (i := 0) (u := .int .i64 q.left) qA rfl).1
      have z1 := (blk_cell (i := 1) (u := .slice q.addr q.right.length q.cap) qA rfl).1
      have z2 := heap_lt qA
      have HBA := Lib.hid (HB.out.trans (hbA.mono hsz))
      have HNB := Lib.hid (HNA.out.below hbA)
      have HST := Lib.hid (Wd.next_snoc (L := kn ls) (show (qs.map Lay.plain)[k]? = some (q.left, q.right) by rw [List.getElem?_map, hqk]; rfl))
      have hki : (Int.toNat (q.left - 100)) = i := by rw [hi]; rfl
      have hqq := HQ.out q hqm
      have HRW := Lib.hid (wrow_any q.addr (some ⟨B, 0, none⟩) q.cap ls.length q.right ls (wr.alloc (.cells #[.int .i64 q.left, .slice q.addr q.right.length q.cap] 94)) (hqq.1.below HBA.out) HLX.cells HLX.rows hqq.2 hsy hln)
      have hql := hqq.2
      clear hc1 hqk hqm hqq hbA qA HLX hsy
      obtain ⟨ql, qr, qa, qc⟩ := q
      simp only at c0 c1 z0 z1 HRW HST hki hi hl1 hl2 hql HBA HNB x1 x2 z2
      generalize hW2 : wr.alloc (.cells #[.int .i64 ql, .slice qa qr.length qc] 94) = W2 at *
      cases hpk : p.known with
      | true =>
        rw [hpk] at x1
        have HN : Hid (Wd.nextF ((qs.map Lay.plain).take (k + 1)) (kn ls) = nx) := Lib.hid (by
          rw [HST.out, HNX.out]; unfold Wd.nextStep; simp only []; rw [hki, hkn]; unfold WL.opt; rw [if_pos hpk])
        clear HRW HST
        go_wp2
        exact ⟨⟨k + 1, nx, by omega, by go_num, HN, HNB, HBA⟩, by simp [intOf]; omega⟩
      | false =>
        rw [hpk] at x1
        have hkn2 : Wd.known (kn ls) i = none := by rw [hkn]; unfold WL.opt; rw [hpk]; rfl
        cases hrw : Wd.rowW (kn ls) qr with
        | none =>
          have HN : Hid (Wd.nextF ((qs.map Lay.plain).take (k + 1)) (kn ls) = nx) := Lib.hid (by
            rw [HST.out, HNX.out]; unfold Wd.nextStep; simp only []; rw [hki, hkn2]; simp only []; rw [hrw])
          have HR2 := Lib.hid (HRW.out.mono fun e w' h => (⟨h.1, by
            rcases h.2 with ⟨v, a, c, h1, _⟩ | ⟨_, h1⟩
            · rw [hrw] at h1; cases h1
            · exact h1⟩ : Below W2.heap.size W2 w' ∧ e = .returned (.tuple #[.slice none 0 0, .bool false])))
          clear HRW HST hrw hkn hkn2 hpk
          have HSZ := Lib.hid HBA.out.size
          go_wp2_with (go_at_call 107; refine HR2.out.mono ?_; rintro e w3 ⟨hb3, rfl⟩)
          exact ⟨⟨k + 1, nx, by omega, by go_num, HN, Lib.hid (HNB.out.below hb3), Lib.hid (HBA.out.trans (hb3.mono HSZ.out))⟩, by simp [intOf]; omega⟩
        | some v =>
          have hvl := row_le (k := qr.length) (short_rows HL.out.rows) hql (by rw [List.take_of_length_le (Nat.le_refl _)]; exact hrw)
          have HST2 : Hid (Wd.nextF ((qs.map Lay.plain).take (k + 1)) (kn ls) = betterF nx i v) := Lib.hid (by
            rw [HST.out, HNX.out]; exact next_put hki hkn2 hrw)
          have HR2 := Lib.hid (HRW.out.mono fun e w' h => (⟨h.1, by
            rcases h.2 with ⟨v', a, c, h1, h2, h3⟩ | ⟨h1, _⟩
            · rw [hrw] at h1; cases h1; exact ⟨a, c, h2, own_baseW h3 (by have := HBA.out.size; omega)⟩
            · rw [hrw] at h1; cases h1⟩ : Below W2.heap.size W2 w' ∧ ∃ a c, e = .returned (.tuple #[.slice a v.length c, .bool true]) ∧ w'.ownsRow (w.heap.size + 1) 3 1 (.slice a v.length c) v.length (nums v)))
          clear HRW HST hrw hkn hkn2 hpk
          have HSZ := Lib.hid HBA.out.size
          have HNE : Hid (wr.heap.size ≠ w.heap.size) := Lib.hid (by have := HNA.out.lt; omega)
          cases nx with
          | none =>
            obtain ⟨hpv, hqx⟩ := HNB.out
            obtain ⟨y0, yf0⟩ := blk_cell (i := 0) (u := .slice none 0 0) hqx rfl
            obtain ⟨y1, yf1⟩ := blk_cell (i := 1) (u := .bool false) hqx rfl
            have y2 := heap_lt hqx
            have HQX2 := Lib.hid hqx
            clear hqx
            go_upto_region 8 with (go_at_call 107; refine HR2.out.mono ?_; rintro e w3 ⟨hb3, a, c, rfl, ho3⟩)
            have v1 := (hb3.cell (p := ⟨w.heap.size, 1, none⟩) y2).trans y1
            have v2 := Nat.lt_of_lt_of_le y2 hb3.size
            go_upto_region 9 with fail
            have hq3 := (hb3.block _ y2).trans HQX2.out
            obtain ⟨v0, vf0⟩ := blk_cell (i := 0) (u := .slice none 0 0) hq3 rfl
            obtain ⟨_, vf1⟩ := blk_cell (i := 1) (u := .bool false) hq3 rfl
            have z03 := (hb3.cell (p := ⟨wr.heap.size, 0, none⟩) z2).trans z0
            have z23 := Nat.lt_of_lt_of_le z2 hb3.size
            have HPUT := Lib.hid (NextAt.put hq3 ho3 i)
            have HB3 := Lib.hid (HBA.out.trans (hb3.mono HSZ.out))
            have hne : wr.heap.size ≠ w.heap.size := HNE.out
            have hne2 : w.heap.size ≠ wr.heap.size := Ne.symm hne
            clear hb3 ho3 hq3
            go_region
            all_goals
              go_wp2
              exact ⟨⟨k + 1, some (i, v), by omega, by go_num, HST2, Lib.hid (by first | exact HPUT.out | exact HPUT.out.drew), Lib.hid (by first | exact ((HB3.out.setCell (p := ⟨w.heap.size, 0, none⟩) (Nat.le_refl _) _).setCell (p := ⟨w.heap.size, 1, none⟩) (Nat.le_refl _) _).drew | exact (HB3.out.drew.setCell (p := ⟨w.heap.size, 0, none⟩) (Nat.le_refl _) _).setCell (p := ⟨w.heap.size, 1, none⟩) (Nat.le_refl _) _)⟩, by simp [intOf]; omega⟩
          | some kv =>
            obtain ⟨k', v'⟩ := kv
            obtain ⟨rfl, a', c', hqx, ho'⟩ := HNB.out
            have hvl' : v'.length ≤ 100000000000 := by
              obtain ⟨⟨p, hpm, _, _, hw⟩, _⟩ := Wd.nextF_some (L := kn ls) HNX.out
              have hp6 : p.2.length ≤ 1000 := by
                obtain ⟨q', hq', rfl⟩ := List.mem_map.1 (List.mem_of_mem_take hpm)
                exact (HQ.out q' hq').2
              exact row_le (k := p.2.length) (short_rows HL.out.rows) hp6 (by rw [List.take_of_length_le (Nat.le_refl _)]; exact hw)
            obtain ⟨y0, yf0⟩ := blk_cell (i := 0) (u := .slice a' v'.length c') hqx rfl
            obtain ⟨y1, yf1⟩ := blk_cell (i := 1) (u := .bool true) hqx rfl
            have y2 := heap_lt hqx
            have HQX2 := Lib.hid hqx
            have HO' := Lib.hid (own_cells ho').1
            clear hqx ho'
            cases hls : Wd.lessI v v' with
            | true =>
              have HN : Hid (Wd.nextF ((qs.map Lay.plain).take (k + 1)) (kn ls) = some (i, v)) := Lib.hid (HST2.out.trans (by unfold betterF; simp only []; rw [hls]; rfl))
              go_upto_region 8 with (go_at_call 107; refine HR2.out.mono ?_; rintro e w3 ⟨hb3, a, c, rfl, ho3⟩)
              have v1 := (hb3.cell (p := ⟨w.heap.size, 1, none⟩) y2).trans y1
              have v0 := (hb3.cell (p := ⟨w.heap.size, 0, none⟩) y2).trans y0
              have v2 := Nat.lt_of_lt_of_le y2 hb3.size
              have HLS := Lib.hid ((wless_any a a' c c' v v' w3 (own_cells ho3).1 (HO'.out.below hb3) (by omega) (by omega)).mono fun e w' ⟨he, hw⟩ => (⟨he.trans (by rw [hls]), hw⟩ : e = Ending.returned (.bool true) ∧ w' = w3))
              clear HST2 hls
              go_upto_region 9 with (go_at_call 35; refine HLS.out.mono ?_; rintro e w4 ⟨rfl, hw4⟩; obtain rfl := hw4.symm)
              have hq3 := (hb3.block _ y2).trans HQX2.out
              obtain ⟨_, vf0⟩ := blk_cell (i := 0) (u := .slice a' v'.length c') hq3 rfl
              obtain ⟨_, vf1⟩ := blk_cell (i := 1) (u := .bool true) hq3 rfl
              have z03 := (hb3.cell (p := ⟨wr.heap.size, 0, none⟩) z2).trans z0
              have z23 := Nat.lt_of_lt_of_le z2 hb3.size
              have HPUT := Lib.hid (NextAt.put hq3 ho3 i)
              have HB3 := Lib.hid (HBA.out.trans (hb3.mono HSZ.out))
              have hne : wr.heap.size ≠ w.heap.size := HNE.out
              have hne2 : w.heap.size ≠ wr.heap.size := Ne.symm hne
              clear hb3 ho3 hq3
              go_region
              all_goals
                go_wp2
                exact ⟨⟨k + 1, some (i, v), by omega, by go_num, HN, Lib.hid (by first | exact HPUT.out | exact HPUT.out.drew), Lib.hid (by first | exact ((HB3.out.setCell (p := ⟨w.heap.size, 0, none⟩) (Nat.le_refl _) _).setCell (p := ⟨w.heap.size, 1, none⟩) (Nat.le_refl _) _).drew | exact (HB3.out.drew.setCell (p := ⟨w.heap.size, 0, none⟩) (Nat.le_refl _) _).setCell (p := ⟨w.heap.size, 1, none⟩) (Nat.le_refl _) _)⟩, by simp [intOf]; omega⟩
            | false =>
              have HN : Hid (Wd.nextF ((qs.map Lay.plain).take (k + 1)) (kn ls) = some (k', v')) := Lib.hid (HST2.out.trans (by unfold betterF; simp only []; rw [hls]; rfl))
              go_upto_region 8 with (go_at_call 107; refine HR2.out.mono ?_; rintro e w3 ⟨hb3, a, c, rfl, ho3⟩)
              have v1 := (hb3.cell (p := ⟨w.heap.size, 1, none⟩) y2).trans y1
              have v0 := (hb3.cell (p := ⟨w.heap.size, 0, none⟩) y2).trans y0
              have v2 := Nat.lt_of_lt_of_le y2 hb3.size
              have HLS := Lib.hid ((wless_any a a' c c' v v' w3 (own_cells ho3).1 (HO'.out.below hb3) (by omega) (by omega)).mono fun e w' ⟨he, hw⟩ => (⟨he.trans (by rw [hls]), hw⟩ : e = Ending.returned (.bool false) ∧ w' = w3))
              clear HST2 hls
              go_wp2_with (go_at_call 35; refine HLS.out.mono ?_; rintro e w4 ⟨rfl, hw4⟩; obtain rfl := hw4.symm)
              exact ⟨⟨k + 1, some (k', v'), by omega, by go_num, HN, Lib.hid (HNB.out.below hb3), Lib.hid (HBA.out.trans (hb3.mono HSZ.out))⟩, by simp [intOf]; omega⟩
    · have e1 : ¬ (k : Int) < qs.length := by omega
      have HNX2 := HNX.out
      rw [List.take_of_length_le (by simp; omega)] at HNX2
      have HNX2 := Lib.hid HNX2
      have hLW := HL.out.keep (w' := wr) fun g hl => HB.out.block g hl
      cases nx with
      | none =>
        obtain ⟨rfl, hqx⟩ := HNA.out
        have y1 := (blk_cell (i := 1) (u := .bool false) hqx rfl).1
        have y2 := heap_lt hqx
        have HLW := Lib.hid hLW
        have HR := Lib.hid (show (Wd.nextF (qs.map Lay.plain) (kn ls)).isSome = false by rw [HNX2.out]; rfl)
        clear hqx hLW
        go_wp2
        go_ret
        refine ⟨by first | rfl | exact ret_bool HR.out.symm, ⟨HB.out.os, HB.out.tape, HB.out.output, HB.out.size, fun g hg _ => HB.out.block g hg⟩, ls, ?_, HLW.out, rfl⟩
        unfold Wd.settleF; rw [HNX2.out]; rfl
      | some kv =>
        obtain ⟨k', v'⟩ := kv
        obtain ⟨rfl, a', c', hqx, ho'⟩ := HNA.out
        obtain ⟨hkl, hvl⟩ := HSH.out k' v' HNX2.out
        have y0 := (blk_cell (i := 0) (u := .slice a' v'.length c') hqx rfl).1
        have y1 := (blk_cell (i := 1) (u := .bool true) hqx rfl).1
        have y2 := heap_lt hqx
        have x2 := heap_lt hLW.q
        obtain ⟨p, hp⟩ : ∃ p, ls[k']? = some p := ⟨_, List.getElem?_eq_getElem hkl⟩
        obtain ⟨x0, xf0⟩ := blk_cell (i := k' * 2) (u := .slice p.addr p.word.length p.cap) hLW.q (by simpa using (wls_at ls k' p hp).1)
        obtain ⟨x1, xf1⟩ := blk_cell (i := k' * 2 + 1) (u := .bool p.known) hLW.q (by simpa using (wls_at ls k' p hp).2)
        have e4 : (k' : Int) < ls.length := by omega
        have HPUT := Lib.hid (hLW.put hkl (own_baseW ho' (by omega)) hvl)
        have HR := Lib.hid (show (Wd.nextF (qs.map Lay.plain) (kn ls)).isSome = true by rw [HNX2.out]; rfl)
        have hne : w.heap.size ≠ B := by omega
        have hne2 : B ≠ w.heap.size := by omega
        clear hqx ho' hLW hp
        go_wp2
        go_ret
        refine ⟨by first | rfl | exact ret_bool HR.out.symm, ⟨HB.out.os, HB.out.tape, HB.out.output, ?_, fun g hg hn => ?_⟩, ls.set k' ⟨v', true, a', c'⟩, ?_, HPUT.out, by simp⟩
        · simpa using HB.out.size
        · have hgb : g ≠ B := fun e => hn (by rw [e])
          exact (Below.heap_setCell _ _ _ _ (show g ≠ B from hgb)).trans ((Below.heap_setCell _ _ _ _ (show g ≠ B from hgb)).trans (HB.out.block g hg))
        · rw [kn_set]; unfold Wd.settleF; rw [HNX2.out]; rfl

end Go.Proofs.Ytflfmcikfiaoiaa
