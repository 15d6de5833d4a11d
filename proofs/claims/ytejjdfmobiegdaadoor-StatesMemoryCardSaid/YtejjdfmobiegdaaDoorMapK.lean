/- The keys of this program's maps: numbers, rows of three numbers. -/
import Derived.Test.YtejjdfmobiegdaaDoorMapM
import Derived.Test.YtejjdfmobiegdaaDoorChecked
import Derived.DeepKeys4
set_option linter.unusedVariables false
namespace Go.Proofs.YtejjdfmobiegdaaDoor
open Go.Maps (Keyed)

set_option maxRecDepth 100000 in
theorem laidOut0 : laidOutB Tryd.prog = true := by kernel_rfl
theorem key_int : Keyed Tryd.prog 3 := Maps.int_keyed Tryd.underlying3
theorem rowKey3 : (48 : TypeId) < Tryd.prog.types.size := of_decide_eq_true (by kernel_rfl)
set_option maxRecDepth 100000 in
theorem wideKey3 : (match Tryd.prog.underlying 48 with | some (.array _ _) | some (.struct _) => true | _ => false) = true := by rw [Tryd.underlying48]
set_option maxRecDepth 100000 in
theorem key_three : Keyed Tryd.prog 48 := Keyed.of_law (deep_law_laid laidOut0 (m := 2) (by omega) rowKey3 (by kernel_rfl) wideKey3)
theorem zeroBool (w : World) : (zeroValue 4).run Tryd.prog w = .ok (.bool false) w := by kernel_rfl

theorem wfI {a : Int} (h1 : -9223372036854775808 ≤ a) (h2 : a ≤ 9223372036854775807) : (Lit.int .i64 a).wf = true := by
  simp only [Lit.wf, Bool.and_eq_true, decide_eq_true_eq]
  exact ⟨h1, h2⟩

/-- A number as a key. -/
def codeI (i : Int) : Value := .int .i64 i
theorem codeI_inj : ∀ a b, codeI a = codeI b → a = b := fun a b h => by unfold codeI at h; simpa using h
theorem codeI_key {a : Int} (h1 : -9223372036854775808 ≤ a) (h2 : a ≤ 9223372036854775807) : ∃ l, keyOf Tryd.prog 3 (codeI a) = some l :=
  ⟨_, Maps.keyOf_int_mk Tryd.underlying3 (wfI h1 h2)⟩
/-- A number from nought on as a key. -/
def codeN (i : Nat) : Value := .int .i64 i
theorem codeN_inj : ∀ a b, codeN a = codeN b → a = b := fun a b h => by unfold codeN at h; simp at h; omega
theorem codeN_key {a : Nat} (h2 : a ≤ 9223372036854775807) : ∃ l, keyOf Tryd.prog 3 (codeN a) = some l := codeI_key (a := (a : Int)) (by omega) (by omega)
/-- Three numbers as a key. -/
def code3 (q : Int × Nat × Nat) : Value := .agg #[.int .i64 q.1, .int .i64 q.2.1, .int .i64 q.2.2]
theorem code3_inj : ∀ a b, code3 a = code3 b → a = b := fun a b h => by
  obtain ⟨a1, a2, a3⟩ := a
  obtain ⟨b1, b2, b3⟩ := b
  unfold code3 at h
  simp only [Value.agg.injEq, Array.mk.injEq, List.cons.injEq, Value.int.injEq, true_and, and_true] at h
  obtain ⟨h1, h2, h3⟩ := h
  simp only [Prod.mk.injEq]
  exact ⟨h1, by omega, by omega⟩
theorem keyType3 : Tryd.prog.keyType 48 = true := by kernel_rfl
theorem cells3 : Tryd.prog.cellsOf 48 = 3 := by kernel_rfl
theorem cells1 : Tryd.prog.cellsOf 3 = 1 := by kernel_rfl
set_option maxRecDepth 100000 in
theorem types_pos : ∃ d, Tryd.prog.types.size = d + 1 := ⟨Tryd.prog.types.size - 1, (Nat.sub_add_cancel (Nat.lt_of_le_of_lt (Nat.zero_le _) rowKey3)).symm⟩
theorem code3_key {x : Int} {i j : Nat} (h1 : -9223372036854775808 ≤ x) (h2 : x ≤ 9223372036854775807) (hi : i ≤ 9223372036854775807) (hj : j ≤ 9223372036854775807) : ∃ l, keyOf Tryd.prog 48 (code3 (x, i, j)) = some l := by
  obtain ⟨d, hd⟩ := types_pos
  have w1 : (Lit.int .i64 x).wf = true := wfI h1 h2
  have w2 : (Lit.int .i64 (i : Int)).wf = true := wfI (by omega) (by omega)
  have w3 : (Lit.int .i64 (j : Int)).wf = true := wfI (by omega) (by omega)
  have hf : (code3 (x, i, j)).formed Tryd.prog 48 = true := by simp [code3, Value.formed, Tryd.underlying48, cells3]
  unfold keyOf
  rw [Tryd.underlying48]
  simp only [keyType3, hf, Bool.and_self, if_true]
  rw [hd]
  simp [code3, Value.cells, Program.keyLits, Tryd.underlying48, Tryd.underlying3, cells3, cells1, w1, w2, w3, List.range_succ]
end Go.Proofs.YtejjdfmobiegdaaDoor
