/- word: the least word of a row: walked. -/
import Derived.Test.YtflfmcikfiaoiaaWordA
set_option linter.unusedVariables false
namespace Go.Proofs.Ytflfmcikfiaoiaa
open Go.RowKit
open Doc

theorem nums_app (a b : List Int) : nums (a ++ b) = nums a ++ nums b := by simp [nums]
theorem nums_lenW (a : List Int) : (nums a).length = a.length := by simp [nums]
theorem row_le {L : Wd.Kn} {r v : List Int} {k : Nat} (h : Wd.Short L 100000000) (hr : r.length ≤ 1000) (hv : Wd.rowW L (r.take k) = some v) : v.length ≤ 100000000000 := by
  have := Wd.row_short (by omega) h (r.take k) [] v hv
  have h2 : (r.take k).length ≤ 1000 := by rw [List.length_take]; omega
  have h3 : (r.take k).length * 100000000 ≤ 1000 * 100000000 := Nat.mul_le_mul_right _ h2
  simp only [List.length_nil] at this
  omega
theorem short_rows {w : World} {ls : List WL} (h : WRows w ls) : Wd.Short (kn ls) 100000000 := by
  intro j v hv
  unfold Wd.known kn at hv
  rw [List.getElem?_map] at hv
  cases hp : ls[j]? with
  | none => rw [hp] at hv; simp at hv
  | some p =>
    rw [hp] at hv
    have hv : p.opt = some v := hv
    unfold WL.opt at hv
    by_cases hk : p.known = true
    · rw [if_pos hk] at hv; cases hv; exact (h p (List.mem_of_getElem? hp) hk).2
    · rw [if_neg hk] at hv; cases hv
theorem own_news0 {W : World} {b : Nat} {a : Option Addr} {l : List Int} (h : Cells W a (nums l)) (hl : l ≠ []) : ∃ g o, a = some ⟨g, o, none⟩ ∧ ∀ j u, (nums l)[j]? = some u → W.cell? ((⟨g, o, none⟩ : Addr).add j) = some u := by
  obtain ⟨g, o, rfl, _, hc⟩ := h.get (by unfold nums; intro e; rw [List.map_eq_nil_iff] at e; exact hl e)
  refine ⟨g, o, rfl, fun j u hu => ?_⟩
  have e : (⟨g, o, none⟩ : Addr).add j = ⟨g, o + j, none⟩ := by unfold Addr.add; split <;> simp_all
  rw [e]; exact hc j u hu

section
variable {P : Program} {w : World}
/-- Nothing is appended. -/
theorem run_nothing (t ty e : TypeId) (i : TypeInfo) (ht : P.underlying t = some (.slice e)) (hi : P.info? e = some i) (va : Option Addr) (n cap : Nat) (hle : n ≤ cap) (xa : Option Addr) (c : Nat) :
    (Builtin.append_ #[t, t] ty #[.slice va n cap, .slice xa 0 c]).run P w = .ok (.slice va n cap) w := by
  cases xa <;> cases va <;> simp [Builtin.append_, run_underlying ht, sizeOf, typeInfo, hi, Builtin.lenOf, Builtin.firstCells, hle, storeCells, loadCells, loadCellsFrom]
theorem wpList_nothing {ops : Array Oper} {rest : List Oper} {o : Oper} {a : Act} {Q : Exit → Act → World → Prop} (hgd : o.guard = none) (s x : Operand) (t : TypeId)
    (ho : o.op = .call { callee := .builtin .append, args := #[s, x], argTypes := #[t, t] })
    (e : TypeId) (i : TypeInfo) (ht : P.underlying t = some (.slice e)) (hi : P.info? e = some i)
    (va : Option Addr) (n cap : Nat) (hs : a.eval s = .slice va n cap) (hle : n ≤ cap) (xa : Option Addr) (c : Nat) (hx : a.eval x = .slice xa 0 c)
    (h : wpList P ops Q rest (a.put o.dst (.slice va n cap)) w) : wpList P ops Q (o :: rest) a w :=
  wpList_plain hgd fun _ hK => by
    have hr := run_nothing (P := P) (w := w) t o.type e i ht hi va n cap hle xa c
    unfold Oper.wp execOp
    simp only [ho, resolve, invoke, builtin, Sem.run_bind, Sem.run_pure, Result.andThen_ok, List.map_toArray, List.map_cons, List.map_nil, hs, hx, hr]
    exact hK _ _ h
end

set_option maxRecDepth 100000 in
set_option maxHeartbeats 4000000 in
theorem wrow_any (sa la : Option Addr) (sc lc : Nat) (r : List Int) (ls : List WL) (w : World) (hs : Cells w sa (nums r)) (hl : Cells w la (wls ls)) (hw : WRows w ls) (hr : r.length ≤ 1000) (hin : ∀ s ∈ r, -1000000 ≤ s ∧ s < 100 + (ls.length : Int)) (hln : ls.length ≤ 1000) :
    Calls Try.prog 107 #[.slice sa r.length sc, .slice la ls.length lc] w fun e w' => Below w.heap.size w w' ∧
      ((∃ v a c, Wd.rowW (kn ls) r = some v ∧ e = .returned (.tuple #[.slice a v.length c, .bool true]) ∧ w'.ownsRow w.heap.size 3 1 (.slice a v.length c) v.length (nums v)) ∨
        (Wd.rowW (kn ls) r = none ∧ e = .returned (.tuple #[.slice none 0 0, .bool false]))) := by
  obtain ⟨i0, hi0, hz0, hz1, hz2⟩ := info_of infoI
  have HSH := Lib.hid (short_rows hw)
  have HS := Lib.hid hs
  have HL := Lib.hid hl
  have HW := Lib.hid hw
  have HIN := Lib.hid hin
  clear hs hl hw hin
  go_enter Try.func107, Try.ntmps107
  go_wp2
  go_loopw [4, 11] (fun t i wr => ∃ (k : Nat) (v : List Int) (a : Option Addr) (c : Nat), k ≤ r.length ∧ i = .int .i64 k ∧ t = .slice a v.length c ∧ Hid (Wd.rowW (kn ls) (r.take k) = some v) ∧ Hid (wr.ownsRow w.heap.size 3 1 (.slice a v.length c) v.length (nums v)) ∧ Hid (Below w.heap.size w wr)) (fun _ i _ => r.length - (intOf i).toNat)
  case atStart => exact ⟨0, [], none, 0, Nat.zero_le _, rfl, rfl, Lib.hid rfl, Lib.hid (World.ownsRow_nil _ _ _ _), Lib.hid (Below.refl _ _)⟩
  case round =>
    obtain ⟨k, v, a, c, hk, rfl, rfl, HV, HO, HB⟩ := hrel
    have hvl := row_le HSH.out hr HV.out
    by_cases hlt : k < r.length
    · obtain ⟨s, hs⟩ : ∃ s, r[k]? = some s := ⟨_, List.getElem?_eq_getElem hlt⟩
      obtain ⟨b1, o1, rfl, hb1, hc1⟩ := (HS.out.below HB.out).get (by unfold nums; intro e; rw [List.map_eq_nil_iff] at e; rw [e] at hlt; simp at hlt)
      have c1 := hc1 k _ (nums_at hs)
      have e1 : (k : Int) < r.length := by omega
      have HT := Lib.hid fun W => wterm_any s W
      have HST := Lib.hid (Wd.rowW_snoc (L := kn ls) hs)
      have hsm := HIN.out s (List.mem_of_getElem? hs)
      have hwl := HB.out.size
      clear hc1
      by_cases ht : s < 100
      · have HN : Hid (Wd.rowW (kn ls) (r.take (k + 1)) = some (v ++ [s])) := Lib.hid (by rw [HST.out, HV.out]; unfold Wd.rowStep; simp only []; rw [if_pos ht])
        rw [decide_eq_true ht] at HT
        clear hsm hs
        go_wp2_with (first
          | (go_at_call 136; refine (HT.out _).mono ?_; rintro e w2 ⟨rfl, hw2⟩; obtain rfl := hw2.symm)
          | (at_builtin; refine wpList_append_lies _ rfl (.tmp 17) (.tmp 19) 34 rfl w.heap.size 3 i0 (.int .i64 0) 1 8 Try.underlying34 hi0 hz0 hz1 hz2 rfl (by decide) _ v.length (nums v) rfl (HO.out.alloc _) ⟨wr.heap.size, 0, none⟩ 1 1 [.int .i64 s] rfl rfl (World.news_of_block (cs := #[.int .i64 s]) (t := 3) (fr := (0, 0)) (heap_alloc_new wr _)) (by simp [Value.oneCell']) (by decide) (by unfold maxLen; omega) (by omega) (by simp; omega) wr.heap.size.succ (by simp) ?_; intro g cap4 w4 hown4 hgrow4 hat4 hlt4))
        have HB4 := Lib.hid ((HB.out.alloc hwl (.cells #[.int .i64 s] 3)).grown hgrow4 (by simp; omega) (fun x hx => (own_block HO.out hx).1))
        exact ⟨⟨k + 1, v ++ [s], some ⟨g, 0, none⟩, cap4, by omega, by go_num, by simp, HN, Lib.hid (by rw [nums_app, show (v ++ [s]).length = v.length + 1 by simp]; exact hown4), HB4⟩, by simp [intOf]; omega⟩
      · rw [decide_eq_false ht] at HT
        obtain ⟨i, hi⟩ := Int.eq_ofNat_of_zero_le (show 0 ≤ s - 100 by omega)
        have hil : i < ls.length := by omega
        obtain ⟨p, hp⟩ : ∃ p, ls[i]? = some p := ⟨_, List.getElem?_eq_getElem hil⟩
        have hpm := List.mem_of_getElem? hp
        obtain ⟨b2, o2, rfl, hb2, hc2⟩ := (HL.out.below HB.out).get (by intro e; have := (wls_at ls i p hp).1; rw [e] at this; simp at this)
        have x0 := hc2 _ _ (wls_at ls i p hp).1
        have x1 := hc2 _ _ (wls_at ls i p hp).2
        rw [← Nat.add_assoc] at x1
        have e4 : (i : Int) < ls.length := by omega
        have hkn := known_kn hp
        have HST2 : Hid (Wd.rowW (kn ls) (r.take (k + 1)) = match p.opt with | none => none | some q => some (v ++ q)) := Lib.hid (by
          rw [HST.out, HV.out]; unfold Wd.rowStep; simp only []; rw [if_neg ht, hi, Int.toNat_natCast, hkn]; cases p.opt <;> rfl)
        have HP := Lib.hid fun hk => HW.out p hpm hk
        obtain ⟨pw, pk, pa, pc⟩ := p
        simp only at x0 x1 HP
        clear hc2 hp hpm hkn hs HST
        have hbA := (Below.refl wr.heap.size wr).alloc (Nat.le_refl _) (.cells #[.slice pa pw.length pc, .bool pk] 119)
        have qA := heap_alloc_new wr (.cells #[.slice pa pw.length pc, .bool pk] 119)
        have z0 := (blk_cell (i := 0) (u := .slice pa pw.length pc) qA rfl).1
        have z1 := (blk_cell (i := 1) (u := .bool pk) qA rfl).1
        have z2 := heap_lt qA
        have HBA := Lib.hid hbA
        clear hbA qA
        cases pk with
        | false =>
          have HN : Hid (Wd.rowW (kn ls) r = none) := Lib.hid (Wd.rowW_stop (j := k + 1) HST2.out)
          go_wp2_with (go_at_call 136; refine (HT.out _).mono ?_; rintro e w2 ⟨rfl, hw2⟩; obtain rfl := hw2.symm)
          go_ret2
          exact ⟨HB.out.trans (HBA.out.mono hwl), .inr ⟨HN.out, rfl⟩⟩
        | true =>
          have HN : Hid (Wd.rowW (kn ls) (r.take (k + 1)) = some (v ++ pw)) := HST2
          have HPL := (HP.out rfl).2
          have HPC := Lib.hid ((HP.out rfl).1.below (HB.out.trans (HBA.out.mono hwl)))
          have HBX := Lib.hid (HB.out.trans (HBA.out.mono hwl))
          have hwx := HBA.out.size
          have HOX := Lib.hid (HO.out.alloc (.cells #[.slice pa pw.length pc, .bool true] 119))
          clear HP HST2 HBA
          by_cases hpe : pw = []
          · subst hpe
            have HN2 : Hid (Wd.rowW (kn ls) (r.take (k + 1)) = some v) := Lib.hid (by rw [HN.out, List.append_nil])
            simp only [List.length_nil] at z0 HOX HBX ⊢
            have hnc := (own_cells HO.out).2
            go_wp2_with (first
              | (go_at_call 136; refine (HT.out _).mono ?_; rintro e w2 ⟨rfl, hw2⟩; obtain rfl := hw2.symm)
              | (at_builtin; refine wpList_nothing rfl (.tmp 29) (.tmp 31) 34 rfl 3 i0 Try.underlying34 hi0 a v.length c rfl hnc pa pc rfl ?_))
            exact ⟨⟨k + 1, v, a, c, by omega, by go_num, rfl, HN2, HOX, HBX⟩, by simp [intOf]; omega⟩
          · obtain ⟨g5, o5, rfl, hn5⟩ := own_news0 (b := 0) HPC.out hpe
            have hm1 : 0 < pw.length := List.length_pos_iff.2 hpe
            go_wp2_with (first
              | (go_at_call 136; refine (HT.out _).mono ?_; rintro e w2 ⟨rfl, hw2⟩; obtain rfl := hw2.symm)
              | (at_builtin; refine wpList_append_lies _ rfl (.tmp 29) (.tmp 31) 34 rfl w.heap.size 3 i0 (.int .i64 0) 1 8 Try.underlying34 hi0 hz0 hz1 hz2 rfl (by decide) _ v.length (nums v) rfl HOX.out ⟨g5, o5, none⟩ pw.length pc (nums pw) rfl (by simp [nums]) hn5 (fun u hu => by obtain ⟨z, _, rfl⟩ := List.mem_map.1 hu; rfl) hm1 (by unfold maxLen; omega) (by omega) (by omega) _ rfl ?_; intro g cap4 w4 hown4 hgrow4 hat4 hlt4))
            have HB4 := Lib.hid (HBX.out.grown hgrow4 (by omega) (fun x hx => (own_block HO.out hx).1))
            exact ⟨⟨k + 1, v ++ pw, some ⟨g, 0, none⟩, cap4, by omega, by go_num, by simp, HN, Lib.hid (by rw [nums_app, show (v ++ pw).length = v.length + pw.length by simp]; exact hown4), HB4⟩, by simp [intOf]; omega⟩
    · have e1 : ¬ (k : Int) < r.length := by omega
      have HN : Hid (Wd.rowW (kn ls) r = some v) := Lib.hid (by rw [← HV.out, List.take_of_length_le (by omega)])
      go_wp2
      go_ret2
      refine ⟨HB.out, .inl ?_⟩
      first
        | exact ⟨v, a, c, HN.out, rfl, HO.out⟩
        | exact ⟨v, HN.out, a, c, rfl, HO.out⟩

end Go.Proofs.Ytflfmcikfiaoiaa
