/- word: what a row costs, and how costs fall: walked. -/
import Derived.Test.YtflfmcikfiaoiaaWordL
import Derived.Test.YtflfmcikfiaoiaaWordD
import Derived.Test.YtflfmcikfiaoiaaCostW
set_option linter.unusedVariables false
namespace Go.Proofs.Ytflfmcikfiaoiaa
open Go.RowKit
open Doc

def flV (x : Nat) : Value := .float .f64 x
theorem fl_at {l : List Nat} {j x : Nat} (h : l[j]? = some x) : (l.map flV)[j]? = some (.float .f64 x) := by rw [List.getElem?_map, h]; rfl
theorem csum_any (a : Option Addr) (cap : Nat) (bs : List Nat) (w : World) (h : Cells w a (bs.map flV)) (hb : ∀ x ∈ bs, x ≤ Fl.inf) (hl : bs.length ≤ 1000000) :
    Calls Try.prog 140 #[.slice a bs.length cap] w fun e w' => e = .returned (.float .f64 (Fl.total bs)) ∧ w' = w := by
  have hall : Fl.sumW bs = Fl.total bs := Fl.sumW_yes bs (List.all_eq_true.2 fun x hx => decide_eq_true (hb x hx))
  cases hbs : bs with
  | nil => exact csum_empty a cap w
  | cons x l =>
    rw [← hbs]
    obtain ⟨b, o, rfl, _, hc⟩ := h.get (by rw [hbs]; simp)
    have := csum_some b o cap bs.length bs w (Lib.hid rfl) (by omega) (Lib.hid fun x hx => by have h1 := hb x hx; have h2 : Fl.inf < 18446744073709551616 := (by decide); omega) fun j hj => hc j _ (fl_at (by rw [Fl.getD_at _ _ hj, List.getElem?_eq_getElem hj]))
    rw [hall] at this
    exact this
theorem pick_two (x y : Nat) (hx : x ≤ Fl.inf) (hy : y ≤ Fl.inf) : ((Fl.pick [x, y]).1 == 1) = decide (y < x) := by
  have e : Fl.pick [x, y] = (if Fl.right y && decide (y < (Fl.pick [x]).2) then (((1 : Nat) : Int), y) else Fl.pick [x]) := Fl.pick_snoc [x] y
  have e1 : Fl.pick [x] = (if Fl.right x && decide (x < Fl.inf) then (((0 : Nat) : Int), x) else (-1, Fl.inf)) := Fl.pick_snoc [] x
  have hrx : Fl.right x = true := decide_eq_true hx
  have hry : Fl.right y = true := decide_eq_true hy
  rw [hrx, Bool.true_and] at e1
  rw [hry, Bool.true_and] at e
  by_cases h1 : x < Fl.inf
  · rw [if_pos (by simpa using h1)] at e1
    rw [e1] at e
    by_cases h2 : y < x
    · rw [if_pos (by simpa using h2)] at e; rw [e]; simp [h2]
    · rw [if_neg (by simpa using h2)] at e; rw [e]; simp; omega
  · rw [if_neg (by simpa using h1)] at e1
    rw [e1] at e
    have : x = Fl.inf := by omega
    by_cases h2 : y < x
    · rw [if_pos (by rw [← this]; simpa using h2)] at e; rw [e]; simp [h2]
    · rw [if_neg (by rw [← this]; simpa using h2)] at e; rw [e]; simp; omega
theorem cleast_two (b cap x y : Nat) (w : World) (hx : x ≤ Fl.inf) (hy : y ≤ Fl.inf) (c0 : w.cell? ⟨b, 0, none⟩ = some (.float .f64 x)) (c1 : w.cell? ⟨b, 1, none⟩ = some (.float .f64 y)) :
    Calls Try.prog 111 #[.slice (some ⟨b, 0, none⟩) 2 cap] w fun e w' => ∃ z : Int, e = .returned (.int .i64 z) ∧ (z == 1) = decide (y < x) ∧ w' = w := by
  have hi : Fl.inf < 18446744073709551616 := by decide
  have := cleast_some b 0 cap 2 [x, y] w (Lib.hid rfl) (by omega) (Lib.hid fun z hz => by
    simp only [List.mem_cons, List.not_mem_nil, or_false] at hz
    rcases hz with rfl | rfl <;> omega) fun j hj => by
      rw [Nat.zero_add]
      match j, hj with
      | 0, _ => exact c0
      | 1, _ => exact c1
  exact this.mono fun e w' ⟨he, hw⟩ => ⟨_, he, pick_two x y hx hy, hw⟩

def flC (C : Wd.Co) : List Value := (C.map Wd.fc).map flV
theorem flC_at {C : Wd.Co} {j : Nat} (h : j < C.length) : (flC C)[j]? = some (.float .f64 (Wd.fc (Wd.co C j))) := by
  unfold flC
  refine fl_at ?_
  rw [List.getElem?_map, List.getElem?_eq_getElem h]
  unfold Wd.co
  rw [List.getElem?_eq_getElem h]; rfl
theorem infoF : (Try.prog.info? 67).map (fun i => (i.zero, i.size, i.bytes)) = some (some (.float .f64 0), 1, 8) := by kernel_rfl
theorem code_le (C : Wd.Co) (s : Int) : Wd.codeOf C s ≤ Fl.inf := by
  unfold Wd.codeOf
  split
  · rw [Fl.ofNat_R]; exact Fl.R_le _
  · exact Wd.fc_le _

set_option maxRecDepth 100000 in
set_option maxHeartbeats 4000000 in
theorem price_any (sa ca : Option Addr) (sc cc : Nat) (r : List Int) (C : Wd.Co) (w : World) (hs : Cells w sa (nums r)) (hc : Cells w ca (flC C)) (hr : r.length ≤ 6) (hin : ∀ s ∈ r, -1000000 ≤ s ∧ s < 100 + (C.length : Int)) (hn : C.length ≤ 1000)
    (hB : ∀ k v, Wd.co C k = some v → v ≤ 1000000000) :
    Calls Try.prog 110 #[.slice sa r.length sc, .slice ca C.length cc] w fun e w' => e = .returned (.float .f64 (Wd.fc (Wd.priceF C r))) ∧ Below w.heap.size w w' := by
  obtain ⟨i0, hi0, hz0, hz1, hz2⟩ := info_of infoF
  have hres : Fl.total (r.map (Wd.codeOf C)) = Wd.fc (Wd.priceF C r) := by
    have h1 := Wd.total_price (C := C) (B := 1000000000) (by decide) hB r (some 0) (fun v hv => by cases hv; omega)
    have h0 : Wd.fc (some 0) = 0 := Fl.ofNat_zero
    rw [h0] at h1
    exact h1
  have HRES := Lib.hid hres
  have HS := Lib.hid hs
  have HC := Lib.hid hc
  have HIN := Lib.hid hin
  have one : Fl.ofNat 1 = 4607182418800017408 := by decide
  clear hs hc hin hres
  go_enter Try.func110, Try.ntmps110
  go_wp2
  go_loopw [5, 10] (fun t i wr => ∃ (k : Nat) (bs : List Nat) (a : Option Addr) (c : Nat), k ≤ r.length ∧ i = .int .i64 k ∧ t = .slice a bs.length c ∧ Hid (bs.length = k) ∧ Hid (bs = (r.take k).map (Wd.codeOf C)) ∧ Hid (wr.ownsRow w.heap.size 67 1 (.slice a bs.length c) bs.length (bs.map flV)) ∧ Hid (Below w.heap.size w wr)) (fun _ i _ => r.length - (intOf i).toNat)
  case atStart => exact ⟨0, [], none, 0, Nat.zero_le _, rfl, rfl, Lib.hid rfl, Lib.hid rfl, Lib.hid (World.ownsRow_nil _ _ _ _), Lib.hid (Below.refl _ _)⟩
  case round =>
    obtain ⟨k, bs, a, c, hk, rfl, rfl, HBL, HV, HO, HB⟩ := hrel
    have hbl6 : bs.length ≤ 6 := by have := HBL.out; omega
    have hlen1 : ∀ z : Nat, (bs ++ [z]).length = bs.length + 1 := fun z => by simp
    by_cases hlt : k < r.length
    · obtain ⟨s, hs⟩ : ∃ s, r[k]? = some s := ⟨_, List.getElem?_eq_getElem hlt⟩
      obtain ⟨b1, o1, rfl, hb1, hc1⟩ := (HS.out.below HB.out).get (by unfold nums; intro e; rw [List.map_eq_nil_iff] at e; rw [e] at hlt; simp at hlt)
      have c1 := hc1 k _ (nums_at hs)
      have e1 : (k : Int) < r.length := by omega
      have HT := Lib.hid fun W => wterm_any s W
      have hsm := HIN.out s (List.mem_of_getElem? hs)
      have hwl := HB.out.size
      have HST := Lib.hid (show (r.take (k + 1)).map (Wd.codeOf C) = bs ++ [Wd.codeOf C s] by rw [List.take_add_one, hs, HV.out]; simp)
      clear hc1 hs
      by_cases ht : s < 100
      · have hcd : Wd.codeOf C s = 4607182418800017408 := by unfold Wd.codeOf; rw [if_pos ht]; exact one
        rw [hcd] at HST
        rw [decide_eq_true ht] at HT
        clear hsm hcd
        go_wp2_with (first
          | (go_at_call 136; refine (HT.out _).mono ?_; rintro e w2 ⟨rfl, hw2⟩; obtain rfl := hw2.symm)
          | (at_builtin; refine wpList_append_lies _ rfl (.tmp 16) (.tmp 17) 62 rfl w.heap.size 67 i0 (.float .f64 0) 1 8 Try.underlying62 hi0 hz0 hz1 hz2 rfl (by decide) _ bs.length (bs.map flV) rfl (HO.out.alloc _) ⟨wr.heap.size, 0, none⟩ 1 1 [.float .f64 4607182418800017408] rfl rfl (World.news_of_block (cs := #[.float .f64 4607182418800017408]) (t := 67) (fr := (0, 0)) (heap_alloc_new wr _)) (by simp [Value.oneCell']) (by decide) (by unfold maxLen; omega) (by omega) (by simp; omega) wr.heap.size.succ (by simp) ?_; intro g cap4 w4 hown4 hgrow4 hat4 hlt4))
        have HB4 := Lib.hid ((HB.out.alloc hwl (.cells #[.float .f64 4607182418800017408] 67)).grown hgrow4 (by simp; omega) (fun x hx => (own_block HO.out hx).1))
        exact ⟨⟨k + 1, bs ++ [4607182418800017408], some ⟨g, 0, none⟩, cap4, by omega, by go_num, by simp, Lib.hid (by have := HBL.out; simp; omega), Lib.hid HST.out.symm, Lib.hid (by rw [List.map_append, hlen1]; exact hown4), HB4⟩, by simp [intOf]; omega⟩
      · rw [decide_eq_false ht] at HT
        obtain ⟨i, hi⟩ := Int.eq_ofNat_of_zero_le (show 0 ≤ s - 100 by omega)
        have hil : i < C.length := by omega
        obtain ⟨b2, o2, rfl, hb2, hc2⟩ := (HC.out.below HB.out).get (by intro e; have := flC_at hil; rw [e] at this; simp at this)
        have x0 := hc2 _ _ (flC_at hil)
        have e4 : (i : Int) < C.length := by omega
        have hcd : Wd.codeOf C s = Wd.fc (Wd.co C i) := by unfold Wd.codeOf; rw [if_neg ht, hi]; rfl
        rw [hcd] at HST
        clear hc2 hcd
        generalize Wd.fc (Wd.co C i) = z at *
        go_wp2_with (first
          | (go_at_call 136; refine (HT.out _).mono ?_; rintro e w2 ⟨rfl, hw2⟩; obtain rfl := hw2.symm)
          | (at_builtin; refine wpList_append_lies _ rfl (.tmp 19) (.tmp 25) 62 rfl w.heap.size 67 i0 (.float .f64 0) 1 8 Try.underlying62 hi0 hz0 hz1 hz2 rfl (by decide) _ bs.length (bs.map flV) rfl (HO.out.alloc _) ⟨wr.heap.size, 0, none⟩ 1 1 [.float .f64 z] rfl rfl (World.news_of_block (cs := #[.float .f64 z]) (t := 67) (fr := (0, 0)) (heap_alloc_new wr _)) (by simp [Value.oneCell']) (by decide) (by unfold maxLen; omega) (by omega) (by simp; omega) wr.heap.size.succ (by simp) ?_; intro g cap4 w4 hown4 hgrow4 hat4 hlt4))
        have HB4 := Lib.hid ((HB.out.alloc hwl (.cells #[.float .f64 z] 67)).grown hgrow4 (by simp; omega) (fun x hx => (own_block HO.out hx).1))
        exact ⟨⟨k + 1, bs ++ [z], some ⟨g, 0, none⟩, cap4, by omega, by go_num, by simp, Lib.hid (by have := HBL.out; simp; omega), Lib.hid HST.out.symm, Lib.hid (by rw [List.map_append, hlen1]; exact hown4), HB4⟩, by simp [intOf]; omega⟩
    · have e1 : ¬ (k : Int) < r.length := by omega
      have hbs : bs = r.map (Wd.codeOf C) := by rw [HV.out, List.take_of_length_le (by omega)]
      have HSM := Lib.hid ((csum_any a c bs wr (own_cells HO.out).1 (fun x hx => by
        rw [hbs] at hx
        obtain ⟨s, _, rfl⟩ := List.mem_map.1 hx
        exact code_le C s) (by have := HBL.out; omega)).mono fun e w' ⟨he, hw⟩ => (⟨he.trans (by rw [hbs, HRES.out]), hw⟩ : e = Ending.returned (.float .f64 (Wd.fc (Wd.priceF C r))) ∧ w' = wr))
      clear hbs
      go_wp2_with (go_at_call 140; refine HSM.out.mono ?_; rintro e w2 ⟨rfl, hw2⟩; obtain rfl := hw2.symm)
      go_ret
      exact ⟨rfl, HB.out⟩

/-- Costs as they lie in a block of their own. -/
def FAt (w : World) (B : Nat) (C : Wd.Co) : Prop := w.heap[B]? = some (.cells (flC C).toArray 67)
theorem FAt.cells {w : World} {B : Nat} {C : Wd.Co} (h : FAt w B C) : Cells w (some ⟨B, 0, none⟩) (flC C) := .inr ⟨B, 0, rfl, heap_lt h, fun j u hj => by
  rw [Nat.zero_add]; exact (blk_cell h (by simpa using hj)).1⟩
theorem FAt.put {w : World} {B : Nat} {C : Wd.Co} (h : FAt w B C) {j : Nat} (hj : j < C.length) (x : Option Nat) : FAt (w.setCell ⟨B, j, none⟩ (.float .f64 (Wd.fc x))) B (C.set j x) := by
  unfold FAt
  rw [heap_set w B j _ _ _ h (by simp [flC]; exact hj)]
  simp only [Array.set!_eq_setIfInBounds, List.setIfInBounds_toArray]
  congr 2
  unfold flC
  rw [List.map_set, List.map_set]; rfl

theorem Cells.grown {w w' : World} {a : Option Addr} {xs : List Value} {B : Nat} (h : Cells w a xs) (hg : w.grownBy w' (some B)) (hs : xs ≠ [] → a.map Addr.block ≠ some B) : Cells w' a xs := by
  by_cases hx : xs = []
  · exact .inl hx
  rcases h with h | ⟨b, off, rfl, hb, hc⟩
  · exact .inl h
  · have hbB : b ≠ B := fun e => hs hx (by rw [e]; rfl)
    have hq := hg.block b hb (fun e => hbB (Option.some.inj e))
    exact .inr ⟨b, off, rfl, Nat.lt_of_lt_of_le hb hg.size, fun j u hj => (World.cell?_of_block (w := w) hq).trans (hc j u hj)⟩
theorem cells_far {w : World} {a : Option Addr} {xs : List Value} {B : Nat} (h : Cells w a xs) (hB : w.heap.size ≤ B) : xs ≠ [] → a.map Addr.block ≠ some B := fun hx e => by
  obtain ⟨b, off, rfl, hb, _⟩ := h.get hx
  have : b = B := Option.some.inj e
  omega
theorem gbF_trans {w a c : World} {B : Nat} (h : w.grownBy a (some B)) (k : a.grownBy c (some B)) : w.grownBy c (some B) :=
  ⟨k.os.trans h.os, k.tape.trans h.tape, k.output.trans h.output, Nat.le_trans h.size k.size, fun g hg hn => (k.block g (Nat.lt_of_lt_of_le hg h.size) hn).trans (h.block g hg hn)⟩
theorem gb_of_below {w a : World} {B : Nat} (h : Below w.heap.size w a) : w.grownBy a (some B) := ⟨h.os, h.tape, h.output, h.size, fun g hg _ => h.block g hg⟩
theorem gb_set {w : World} {B j : Nat} (u : Value) : w.grownBy (w.setCell ⟨B, j, none⟩ u) (some B) :=
  ⟨rfl, rfl, rfl, by simp, fun g _ hn => Below.heap_setCell _ _ _ _ (show g ≠ B from fun e => hn (by rw [e]))⟩

theorem run_stf {P : Program} {W : World} {B i x xo : Nat} (h : W.cell? ⟨B, i, none⟩ = some (.float .f64 xo)) (hf : W.frozen? ⟨B, i, none⟩ = false) : (store ⟨B, i, none⟩ (.float .f64 x)).run P W = .ok () (W.setCell ⟨B, i, none⟩ (.float .f64 x)) := by
  rw [run_store P W _ _ _ rfl]
  simp [h, hf]

set_option maxRecDepth 100000 in
set_option maxHeartbeats 1000000 in
theorem fall_any (pa : Option Addr) (pcap B : Nat) (qs : List Lay) (C : Wd.Co) (w : World) (hps : Cells w pa (lays qs)) (hq : ∀ q ∈ qs, Cells w q.addr (nums q.right) ∧ q.right.length ≤ 6)
    (hin : ∀ q ∈ qs, (100 ≤ q.left ∧ q.left < 100 + (C.length : Int)) ∧ ∀ s ∈ q.right, -1000000 ≤ s ∧ s < 100 + (C.length : Int)) (hC : FAt w B C) (hBd : Wd.Bound C) (hsep : lays qs ≠ [] → pa.map Addr.block ≠ some B) (hsep2 : ∀ q ∈ qs, nums q.right ≠ [] → q.addr.map Addr.block ≠ some B) (hqn : qs.length ≤ 1000) (hln : C.length ≤ 8) :
    Calls Try.prog 79 #[.slice pa qs.length pcap, .slice (some ⟨B, 0, none⟩) C.length C.length] w fun e w' => e = .returned (.bool (Wd.fallF (qs.map Lay.plain) C).2) ∧ w.grownBy w' (some B) ∧ FAt w' B (Wd.fallF (qs.map Lay.plain) C).1 ∧ Wd.Bound (Wd.fallF (qs.map Lay.plain) C).1 := by
  have HPS := Lib.hid hps
  have HQ := Lib.hid hq
  have HIN := Lib.hid hin
  have HC := Lib.hid hC
  have HBD := Lib.hid hBd
  have HSP := Lib.hid hsep
  have HSP2 := Lib.hid hsep2
  clear hps hq hin hC hBd hsep hsep2
  go_enter Try.func79, Try.ntmps79
  go_wp2
  go_loopw [5, 12] (fun fv i wr => ∃ (k : Nat) (D : Wd.Co) (b : Bool), k ≤ qs.length ∧ i = .int .i64 k ∧ fv = .bool b ∧ Hid (D.length = C.length) ∧ Hid (((qs.map Lay.plain).take k).foldl Wd.fallStep (C, false) = (D, b)) ∧ Hid (FAt wr B D) ∧ Hid (Wd.Bound D) ∧ Hid (w.grownBy wr (some B))) (fun _ i _ => qs.length - (intOf i).toNat)
  case atStart => exact ⟨0, C, false, Nat.zero_le _, rfl, rfl, Lib.hid rfl, Lib.hid rfl, HC, HBD, Lib.hid (gb_of_below (Below.refl _ _))⟩
  case round =>
    obtain ⟨k, D, b, hk, rfl, rfl, HDL, HF, HFA, HBn, HG⟩ := hrel
    by_cases hlt : k < qs.length
    · obtain ⟨q, hqk⟩ : ∃ q, qs[k]? = some q := ⟨_, List.getElem?_eq_getElem hlt⟩
      have hqm := List.mem_of_getElem? hqk
      obtain ⟨b1, o1, rfl, hb1, hc1⟩ := (HPS.out.grown HG.out HSP.out).get (by intro e; have := (lays_at qs k q hqk).1; rw [e] at this; simp at this)
      have c0 := hc1 _ _ (lays_at qs k q hqk).1
      have c1 := hc1 _ _ (lays_at qs k q hqk).2
      rw [← Nat.add_assoc] at c1
      have e1 : (k : Int) < qs.length := by omega
      obtain ⟨⟨hl1, hl2⟩, hsy⟩ := HIN.out q hqm
      obtain ⟨i, hi⟩ := Int.eq_ofNat_of_zero_le (show 0 ≤ q.left - 100 by omega)
      have hil : i < C.length := by omega
      have e4 : (i : Int) < C.length := by omega
      have hiD : i < D.length := by rw [HDL.out]; exact hil
      have hbA := (Below.refl wr.heap.size wr).alloc (Nat.le_refl _) (.cells #[.int .i64 q.left, .slice q.addr q.right.length q.cap] 94)
      have qA := heap_alloc_new wr (.cells #[.int .i64 q.left, .slice q.addr q.right.length q.cap] 94)
      have HFX : Hid (FAt (wr.alloc (.cells #[.int .i64 q.left, .slice q.addr q.right.length q.cap] 94)) B D) := Lib.hid ((hbA.block B (heap_lt HFA.out)).trans HFA.out)
      have z0 := (blk_cell (i := 0) (u := .int .i64 q.left) qA rfl).1
      have z1 := (blk_cell (i := 1) (u := .slice q.addr q.right.length q.cap) qA rfl).1
      have z2 := heap_lt qA
      have HBA := Lib.hid hbA
      have hqq := HQ.out q hqm
      have hBn := HBn.out
      have hpow : 6 ^ Wd.fin D ≤ 1000000000 := Nat.le_trans (Nat.pow_le_pow_right (by decide) (show Wd.fin D ≤ 8 by have := Wd.fin_le D; have := HDL.out; omega)) (by decide)
      have hVB : ∀ k v, Wd.co D k = some v → v ≤ 1000000000 := fun k v h => Nat.le_trans (hBn k v h) hpow
      have HPR := price_any q.addr (some ⟨B, 0, none⟩) q.cap C.length q.right D (wr.alloc (.cells #[.int .i64 q.left, .slice q.addr q.right.length q.cap] 94)) ((hqq.1.grown HG.out (HSP2.out q hqm)).below hbA) HFX.out.cells hqq.2 (by rw [HDL.out]; exact hsy) (by rw [HDL.out]; omega) hVB
      rw [HDL.out] at HPR
      have HPR := Lib.hid HPR
      have hst : ((qs.map Lay.plain).take (k + 1)).foldl Wd.fallStep (C, false) = Wd.fallStep (D, b) (q.left, q.right) := by
        rw [List.take_add_one, List.getElem?_map, hqk, List.foldl_append, HF.out]; rfl
      have hki : (q.left - 100).toNat = i := by rw [hi]; rfl
      have hstp : Wd.Bound (Wd.fallStep (D, b) (q.left, q.right)).1 := Wd.bound_step (a := (D, b)) (p := (q.left, q.right)) ⟨hl1, by show q.left < _; rw [HDL.out]; exact hl2⟩ hqq.2 hBn
      have hprv : ∀ v, Wd.priceF D q.right = some v → v < 2 ^ 53 := fun v hv => by
        have := Wd.price_le (C := D) (B := 1000000000) (by decide) hVB q.right 0 v hv
        have := hqq.2
        have : q.right.length * 1000000000 ≤ 6 * 1000000000 := Nat.mul_le_mul_right _ hqq.2
        omega
      have hcov : ∀ v, Wd.co D i = some v → v < 2 ^ 53 := fun v hv => by have := hVB i v hv; omega
      have hfc := Wd.fc_lt hprv hcov
      have hst2 : Wd.fallStep (D, b) (q.left, q.right) = if Wd.ltC (Wd.priceF D q.right) (Wd.co D i) = true then (D.set i (Wd.priceF D q.right), true) else (D, b) := by
        unfold Wd.fallStep; simp only []; rw [hki]
      rw [hst2] at hst hstp
      have HX := Lib.hid (Wd.fc_le (Wd.co D i))
      have HY := Lib.hid (Wd.fc_le (Wd.priceF D q.right))
      have HPUT := Lib.hid fun W (h : FAt W B D) => h.put hiD (Wd.priceF D q.right)
      have HFLC := Lib.hid (flC_at hiD)
      clear hc1 hqk hqm hqq hbA qA hsy hst2 hprv hcov hVB hpow hBn hki
      obtain ⟨ql, qr, qa, qc⟩ := q
      simp only at c0 c1 z0 z1 HPR hst hstp hi hl1 hl2 HBA HFX z2 HY HPUT hfc
      generalize Wd.priceF D qr = now at *
      generalize hxx : Wd.co D i = old at *
      generalize hW2 : wr.alloc (.cells #[.int .i64 ql, .slice qa qr.length qc] 94) = W2 at *
      cases hlc : Wd.ltC now old with
      | true =>
        rw [hlc] at hst hstp
        rw [if_pos rfl] at hst hstp
        have HZ : Hid (decide (Wd.fc now < Wd.fc old) = true) := Lib.hid (decide_eq_true (hfc.2 hlc))
        have HST := Lib.hid hst
        have HSTP := Lib.hid hstp
        clear hst hstp hfc hlc hxx
        go_upto_region 7 with (go_at_call 110; refine HPR.out.mono ?_; rintro e w3 ⟨rfl, hb3⟩)
        have hF3 : FAt w3 B D := (hb3.block B (heap_lt HFX.out)).trans HFX.out
        obtain ⟨x0, xf0⟩ := blk_cell (i := i) (u := .float .f64 (Wd.fc old)) hF3 (by simpa using HFLC.out)
        have x2 := heap_lt hF3
        have HG3 := Lib.hid (gbF_trans HG.out (gb_of_below (HBA.out.trans (hb3.mono HBA.out.size))))
        have HF3 := Lib.hid hF3
        clear hb3 hF3
        generalize Wd.fc old = xo at *
        generalize Wd.fc now = xn at *
        go_upto_region 8 with (go_at_call 111; refine (cleast_two w3.heap.size 2 xo xn _ HX.out HY.out (blk_cell (i := 0) (heap_alloc_new w3 _) rfl).1 (blk_cell (i := 1) (heap_alloc_new w3 _) rfl).1).mono ?_; rintro e w4 ⟨z, rfl, hz, hw4⟩; rw [HZ.out] at hz; obtain rfl := hw4.symm)
        have hF4 : FAt (w3.alloc (.cells #[.float .f64 xo, .float .f64 xn] 67)) B D := (Below.heap_alloc _ _ _ x2).trans HF3.out
        have HG4 := Lib.hid (gbF_trans HG3.out (gb_of_below ((Below.refl w3.heap.size w3).alloc (Nat.le_refl _) (.cells #[.float .f64 xo, .float .f64 xn] 67))))
        clear x0 xf0 x2 hz
        generalize w3.alloc (.cells #[.float .f64 xo, .float .f64 xn] 67) = W4 at *
        obtain ⟨y0, yf0⟩ := blk_cell (i := i) (u := .float .f64 xo) hF4 (by simpa using HFLC.out)
        have y2 := heap_lt hF4
        have HP4 := Lib.hid (HPUT.out W4 hF4)
        have HG5 := Lib.hid (gbF_trans HG4.out (gb_set (j := i) (.float .f64 xn)))
        clear hF4
        have hsf := run_stf (P := Try.prog) (x := xn) y0 yf0
        go_wp2
        exact ⟨⟨k + 1, D.set i now, true, by omega, by go_num, rfl, Lib.hid (by simp; exact HDL.out), HST, HP4, HSTP, HG5⟩, by simp [intOf]; omega⟩
      | false =>
        rw [hlc] at hst hstp
        rw [if_neg (by decide)] at hst hstp
        have HZ : Hid (decide (Wd.fc now < Wd.fc old) = false) := Lib.hid (decide_eq_false fun h => by have := hfc.1 h; rw [hlc] at this; cases this)
        have HST := Lib.hid hst
        have HSTP := Lib.hid hstp
        clear hst hstp hfc hlc hxx
        go_upto_region 7 with (go_at_call 110; refine HPR.out.mono ?_; rintro e w3 ⟨rfl, hb3⟩)
        have hF3 : FAt w3 B D := (hb3.block B (heap_lt HFX.out)).trans HFX.out
        obtain ⟨x0, xf0⟩ := blk_cell (i := i) (u := .float .f64 (Wd.fc old)) hF3 (by simpa using HFLC.out)
        have x2 := heap_lt hF3
        have HG3 := Lib.hid (gbF_trans HG.out (gb_of_below (HBA.out.trans (hb3.mono HBA.out.size))))
        have HF3 := Lib.hid hF3
        clear hb3 hF3
        generalize Wd.fc old = xo at *
        generalize Wd.fc now = xn at *
        have HF4 : Hid (FAt (w3.alloc (.cells #[.float .f64 xo, .float .f64 xn] 67)) B D) := Lib.hid ((Below.heap_alloc _ _ _ x2).trans HF3.out)
        have HG4 := Lib.hid (gbF_trans HG3.out (gb_of_below ((Below.refl w3.heap.size w3).alloc (Nat.le_refl _) (.cells #[.float .f64 xo, .float .f64 xn] 67))))
        go_wp2_with (go_at_call 111; refine (cleast_two w3.heap.size 2 xo xn _ HX.out HY.out (blk_cell (i := 0) (heap_alloc_new w3 _) rfl).1 (blk_cell (i := 1) (heap_alloc_new w3 _) rfl).1).mono ?_; rintro e w4 ⟨z, rfl, hz, hw4⟩; rw [HZ.out] at hz; obtain rfl := hw4.symm)
        exact ⟨⟨k + 1, D, b, by omega, by go_num, rfl, HDL, HST, HF4, HSTP, HG4⟩, by simp [intOf]; omega⟩
    · have e1 : ¬ (k : Int) < qs.length := by omega
      have HF2 := HF.out
      rw [List.take_of_length_le (by simp; omega)] at HF2
      have HF2 : Hid (Wd.fallF (qs.map Lay.plain) C = (D, b)) := Lib.hid HF2
      have HR := Lib.hid (show b = (Wd.fallF (qs.map Lay.plain) C).2 by rw [HF2.out])
      go_wp2
      go_ret
      exact ⟨by first | rfl | exact ret_bool HR.out, HG.out, by rw [HF2.out]; exact HFA.out, by rw [HF2.out]; exact HBn.out⟩

end Go.Proofs.Ytflfmcikfiaoiaa
