/- exegetelaw04's own Text: whatever its arguments, some text of at most 800 bytes. -/
import Derived.Test.YtljoihhhfpmfeaaText
set_option linter.unusedVariables false
namespace Go.Proofs.Ytljoihhhfpmfeaa
open Go.RowKit
open Doc

def pieces : List (List UInt8) := [[83, 58, 32, 97, 32, 83, 32, 124, 32, 98, 10], [65, 58, 32, 99, 32, 124, 10], [66, 58, 32, 65, 32, 66, 32, 124, 32, 83, 10], [83, 58, 32, 65, 10], [67, 58, 32, 97, 32, 124, 32, 97, 10], [68, 58, 32, 124, 32, 124, 10], [69, 58, 32, 97, 32, 98, 32, 99, 32, 100, 32, 101, 32, 102, 10], [70, 58, 32, 97, 32, 98, 32, 99, 32, 100, 32, 101, 32, 102, 32, 103, 10], [35, 32, 110, 111, 116, 104, 105, 110, 103, 10], [10], [32, 32, 71, 32, 58, 32, 120, 32, 32, 124, 32, 32, 121, 10], [72, 32, 97, 10], [73, 58, 32, 58, 10], [97, 58, 32, 98, 10], [74, 10], [75, 58, 32, 122, 49, 32, 122, 50, 32, 122, 51, 32, 122, 52, 32, 122, 53, 32, 122, 54, 10], [76, 58, 32, 90, 10], [77, 58, 32, 77, 10], [78, 58, 97, 124, 78, 32, 98, 10], [79, 58, 32, 83, 32, 124, 32, 65, 32, 124, 32, 66, 32, 124, 32, 67, 32, 124, 32, 68, 32, 124, 32, 69, 32, 124, 32, 70, 32, 124, 32, 71, 32, 124, 32, 75, 32, 124, 32, 76, 32, 124, 32, 77, 32, 124, 32, 78, 32, 124, 32, 79, 10], [80, 58, 32, 97, 32, 124, 32, 98, 32, 124, 32, 99, 32, 124, 32, 100, 32, 124, 32, 97, 32, 97, 32, 124, 32, 97, 32, 98, 32, 124, 32, 97, 32, 99, 32, 124, 32, 98, 32, 97, 32, 124, 32, 98, 32, 98, 32, 124, 32, 98, 32, 99, 10]]
theorem pieces_len : ∀ x ∈ pieces, x.length ≤ 53 := by decide
theorem text4_raw (s : ByteArray) (a : Option Addr) (len cap : Nat) (zs : List Int) (w : World) (hr : IsRow .i64 w a len cap zs) :
    Calls Try.prog 30 #[.string s, .slice a len cap, .bool true] w fun e w' => ∃ t : ByteArray, t.size ≤ 800 ∧ e = .returned (.string t) ∧ Below w.heap.size w w' := by
  have HT := Lib.hid (text_picks s a len cap zs w hr)
  clear hr
  go_enter Try.func30, Try.ntmps30
  go_wp2_with (go_at_call 87; refine HT.out.mono ?_; rintro e w' ⟨t, ht, rfl, hb⟩)
  go_ret
  exact ⟨t, by omega, rfl, hb⟩

set_option maxRecDepth 100000 in
set_option maxHeartbeats 4000000 in
theorem text4_picks (s : ByteArray) (a : Option Addr) (len cap : Nat) (zs : List Int) (w : World) (hr : IsRow .i64 w a len cap zs) :
    Calls Try.prog 30 #[.string s, .slice a len cap, .bool false] w fun e w' => ∃ t : ByteArray, t.size ≤ 800 ∧ e = .returned (.string t) ∧ Below w.heap.size w w' := by
  have hS : Below w.heap.size w (w.alloc (.cells #[.string ⟨#[83, 58, 32, 97, 32, 83, 32, 124, 32, 98, 10]⟩, .string ⟨#[65, 58, 32, 99, 32, 124, 10]⟩, .string ⟨#[66, 58, 32, 65, 32, 66, 32, 124, 32, 83, 10]⟩, .string ⟨#[83, 58, 32, 65, 10]⟩, .string ⟨#[67, 58, 32, 97, 32, 124, 32, 97, 10]⟩, .string ⟨#[68, 58, 32, 124, 32, 124, 10]⟩, .string ⟨#[69, 58, 32, 97, 32, 98, 32, 99, 32, 100, 32, 101, 32, 102, 10]⟩, .string ⟨#[70, 58, 32, 97, 32, 98, 32, 99, 32, 100, 32, 101, 32, 102, 32, 103, 10]⟩, .string ⟨#[35, 32, 110, 111, 116, 104, 105, 110, 103, 10]⟩, .string ⟨#[10]⟩, .string ⟨#[32, 32, 71, 32, 58, 32, 120, 32, 32, 124, 32, 32, 121, 10]⟩, .string ⟨#[72, 32, 97, 10]⟩, .string ⟨#[73, 58, 32, 58, 10]⟩, .string ⟨#[97, 58, 32, 98, 10]⟩, .string ⟨#[74, 10]⟩, .string ⟨#[75, 58, 32, 122, 49, 32, 122, 50, 32, 122, 51, 32, 122, 52, 32, 122, 53, 32, 122, 54, 10]⟩, .string ⟨#[76, 58, 32, 90, 10]⟩, .string ⟨#[77, 58, 32, 77, 10]⟩, .string ⟨#[78, 58, 97, 124, 78, 32, 98, 10]⟩, .string ⟨#[79, 58, 32, 83, 32, 124, 32, 65, 32, 124, 32, 66, 32, 124, 32, 67, 32, 124, 32, 68, 32, 124, 32, 69, 32, 124, 32, 70, 32, 124, 32, 71, 32, 124, 32, 75, 32, 124, 32, 76, 32, 124, 32, 77, 32, 124, 32, 78, 32, 124, 32, 79, 10]⟩, .string ⟨#[80, 58, 32, 97, 32, 124, 32, 98, 32, 124, 32, 99, 32, 124, 32, 100, 32, 124, 32, 97, 32, 97, 32, 124, 32, 97, 32, 98, 32, 124, 32, 97, 32, 99, 32, 124, 32, 98, 32, 97, 32, 124, 32, 98, 32, 98, 32, 124, 32, 98, 32, 99, 10]⟩] 9)) := (Below.refl _ _).alloc (Nat.le_refl _) _
  have hq : ∀ k x, pieces[k]? = some x → (w.alloc (.cells #[.string ⟨#[83, 58, 32, 97, 32, 83, 32, 124, 32, 98, 10]⟩, .string ⟨#[65, 58, 32, 99, 32, 124, 10]⟩, .string ⟨#[66, 58, 32, 65, 32, 66, 32, 124, 32, 83, 10]⟩, .string ⟨#[83, 58, 32, 65, 10]⟩, .string ⟨#[67, 58, 32, 97, 32, 124, 32, 97, 10]⟩, .string ⟨#[68, 58, 32, 124, 32, 124, 10]⟩, .string ⟨#[69, 58, 32, 97, 32, 98, 32, 99, 32, 100, 32, 101, 32, 102, 10]⟩, .string ⟨#[70, 58, 32, 97, 32, 98, 32, 99, 32, 100, 32, 101, 32, 102, 32, 103, 10]⟩, .string ⟨#[35, 32, 110, 111, 116, 104, 105, 110, 103, 10]⟩, .string ⟨#[10]⟩, .string ⟨#[32, 32, 71, 32, 58, 32, 120, 32, 32, 124, 32, 32, 121, 10]⟩, .string ⟨#[72, 32, 97, 10]⟩, .string ⟨#[73, 58, 32, 58, 10]⟩, .string ⟨#[97, 58, 32, 98, 10]⟩, .string ⟨#[74, 10]⟩, .string ⟨#[75, 58, 32, 122, 49, 32, 122, 50, 32, 122, 51, 32, 122, 52, 32, 122, 53, 32, 122, 54, 10]⟩, .string ⟨#[76, 58, 32, 90, 10]⟩, .string ⟨#[77, 58, 32, 77, 10]⟩, .string ⟨#[78, 58, 97, 124, 78, 32, 98, 10]⟩, .string ⟨#[79, 58, 32, 83, 32, 124, 32, 65, 32, 124, 32, 66, 32, 124, 32, 67, 32, 124, 32, 68, 32, 124, 32, 69, 32, 124, 32, 70, 32, 124, 32, 71, 32, 124, 32, 75, 32, 124, 32, 76, 32, 124, 32, 77, 32, 124, 32, 78, 32, 124, 32, 79, 10]⟩, .string ⟨#[80, 58, 32, 97, 32, 124, 32, 98, 32, 124, 32, 99, 32, 124, 32, 100, 32, 124, 32, 97, 32, 97, 32, 124, 32, 97, 32, 98, 32, 124, 32, 97, 32, 99, 32, 124, 32, 98, 32, 97, 32, 124, 32, 98, 32, 98, 32, 124, 32, 98, 32, 99, 10]⟩] 9)).cell? ⟨w.heap.size, k, none⟩ = some (.string ⟨x.toArray⟩) := fun k x hx => by
    have hn := World.news_of_block (heap_alloc_new w (.cells #[.string ⟨#[83, 58, 32, 97, 32, 83, 32, 124, 32, 98, 10]⟩, .string ⟨#[65, 58, 32, 99, 32, 124, 10]⟩, .string ⟨#[66, 58, 32, 65, 32, 66, 32, 124, 32, 83, 10]⟩, .string ⟨#[83, 58, 32, 65, 10]⟩, .string ⟨#[67, 58, 32, 97, 32, 124, 32, 97, 10]⟩, .string ⟨#[68, 58, 32, 124, 32, 124, 10]⟩, .string ⟨#[69, 58, 32, 97, 32, 98, 32, 99, 32, 100, 32, 101, 32, 102, 10]⟩, .string ⟨#[70, 58, 32, 97, 32, 98, 32, 99, 32, 100, 32, 101, 32, 102, 32, 103, 10]⟩, .string ⟨#[35, 32, 110, 111, 116, 104, 105, 110, 103, 10]⟩, .string ⟨#[10]⟩, .string ⟨#[32, 32, 71, 32, 58, 32, 120, 32, 32, 124, 32, 32, 121, 10]⟩, .string ⟨#[72, 32, 97, 10]⟩, .string ⟨#[73, 58, 32, 58, 10]⟩, .string ⟨#[97, 58, 32, 98, 10]⟩, .string ⟨#[74, 10]⟩, .string ⟨#[75, 58, 32, 122, 49, 32, 122, 50, 32, 122, 51, 32, 122, 52, 32, 122, 53, 32, 122, 54, 10]⟩, .string ⟨#[76, 58, 32, 90, 10]⟩, .string ⟨#[77, 58, 32, 77, 10]⟩, .string ⟨#[78, 58, 97, 124, 78, 32, 98, 10]⟩, .string ⟨#[79, 58, 32, 83, 32, 124, 32, 65, 32, 124, 32, 66, 32, 124, 32, 67, 32, 124, 32, 68, 32, 124, 32, 69, 32, 124, 32, 70, 32, 124, 32, 71, 32, 124, 32, 75, 32, 124, 32, 76, 32, 124, 32, 77, 32, 124, 32, 78, 32, 124, 32, 79, 10]⟩, .string ⟨#[80, 58, 32, 97, 32, 124, 32, 98, 32, 124, 32, 99, 32, 124, 32, 100, 32, 124, 32, 97, 32, 97, 32, 124, 32, 97, 32, 98, 32, 124, 32, 97, 32, 99, 32, 124, 32, 98, 32, 97, 32, 124, 32, 98, 32, 98, 32, 124, 32, 98, 32, 99, 10]⟩] 9)) k (.string ⟨x.toArray⟩) (by
      have hA : (#[.string ⟨#[83, 58, 32, 97, 32, 83, 32, 124, 32, 98, 10]⟩, .string ⟨#[65, 58, 32, 99, 32, 124, 10]⟩, .string ⟨#[66, 58, 32, 65, 32, 66, 32, 124, 32, 83, 10]⟩, .string ⟨#[83, 58, 32, 65, 10]⟩, .string ⟨#[67, 58, 32, 97, 32, 124, 32, 97, 10]⟩, .string ⟨#[68, 58, 32, 124, 32, 124, 10]⟩, .string ⟨#[69, 58, 32, 97, 32, 98, 32, 99, 32, 100, 32, 101, 32, 102, 10]⟩, .string ⟨#[70, 58, 32, 97, 32, 98, 32, 99, 32, 100, 32, 101, 32, 102, 32, 103, 10]⟩, .string ⟨#[35, 32, 110, 111, 116, 104, 105, 110, 103, 10]⟩, .string ⟨#[10]⟩, .string ⟨#[32, 32, 71, 32, 58, 32, 120, 32, 32, 124, 32, 32, 121, 10]⟩, .string ⟨#[72, 32, 97, 10]⟩, .string ⟨#[73, 58, 32, 58, 10]⟩, .string ⟨#[97, 58, 32, 98, 10]⟩, .string ⟨#[74, 10]⟩, .string ⟨#[75, 58, 32, 122, 49, 32, 122, 50, 32, 122, 51, 32, 122, 52, 32, 122, 53, 32, 122, 54, 10]⟩, .string ⟨#[76, 58, 32, 90, 10]⟩, .string ⟨#[77, 58, 32, 77, 10]⟩, .string ⟨#[78, 58, 97, 124, 78, 32, 98, 10]⟩, .string ⟨#[79, 58, 32, 83, 32, 124, 32, 65, 32, 124, 32, 66, 32, 124, 32, 67, 32, 124, 32, 68, 32, 124, 32, 69, 32, 124, 32, 70, 32, 124, 32, 71, 32, 124, 32, 75, 32, 124, 32, 76, 32, 124, 32, 77, 32, 124, 32, 78, 32, 124, 32, 79, 10]⟩, .string ⟨#[80, 58, 32, 97, 32, 124, 32, 98, 32, 124, 32, 99, 32, 124, 32, 100, 32, 124, 32, 97, 32, 97, 32, 124, 32, 97, 32, 98, 32, 124, 32, 97, 32, 99, 32, 124, 32, 98, 32, 97, 32, 124, 32, 98, 32, 98, 32, 124, 32, 98, 32, 99, 10]⟩] : Array Value).toList = pieces.map (fun x => .string ⟨x.toArray⟩) := rfl
      rw [hA, List.getElem?_map, hx]; rfl)
    have hadd : (⟨w.heap.size, 0, none⟩ : Addr).add k = ⟨w.heap.size, k, none⟩ := by unfold Addr.add; split <;> simp_all
    exact hadd ▸ hn
  have HQ := Lib.hid hq
  have HS := Lib.hid hS
  have HR := Lib.hid hr
  clear hq hS hr
  go_enter Try.func30, Try.ntmps30
  go_wp2
  generalize w.alloc (.cells #[.string ⟨#[83, 58, 32, 97, 32, 83, 32, 124, 32, 98, 10]⟩, .string ⟨#[65, 58, 32, 99, 32, 124, 10]⟩, .string ⟨#[66, 58, 32, 65, 32, 66, 32, 124, 32, 83, 10]⟩, .string ⟨#[83, 58, 32, 65, 10]⟩, .string ⟨#[67, 58, 32, 97, 32, 124, 32, 97, 10]⟩, .string ⟨#[68, 58, 32, 124, 32, 124, 10]⟩, .string ⟨#[69, 58, 32, 97, 32, 98, 32, 99, 32, 100, 32, 101, 32, 102, 10]⟩, .string ⟨#[70, 58, 32, 97, 32, 98, 32, 99, 32, 100, 32, 101, 32, 102, 32, 103, 10]⟩, .string ⟨#[35, 32, 110, 111, 116, 104, 105, 110, 103, 10]⟩, .string ⟨#[10]⟩, .string ⟨#[32, 32, 71, 32, 58, 32, 120, 32, 32, 124, 32, 32, 121, 10]⟩, .string ⟨#[72, 32, 97, 10]⟩, .string ⟨#[73, 58, 32, 58, 10]⟩, .string ⟨#[97, 58, 32, 98, 10]⟩, .string ⟨#[74, 10]⟩, .string ⟨#[75, 58, 32, 122, 49, 32, 122, 50, 32, 122, 51, 32, 122, 52, 32, 122, 53, 32, 122, 54, 10]⟩, .string ⟨#[76, 58, 32, 90, 10]⟩, .string ⟨#[77, 58, 32, 77, 10]⟩, .string ⟨#[78, 58, 97, 124, 78, 32, 98, 10]⟩, .string ⟨#[79, 58, 32, 83, 32, 124, 32, 65, 32, 124, 32, 66, 32, 124, 32, 67, 32, 124, 32, 68, 32, 124, 32, 69, 32, 124, 32, 70, 32, 124, 32, 71, 32, 124, 32, 75, 32, 124, 32, 76, 32, 124, 32, 77, 32, 124, 32, 78, 32, 124, 32, 79, 10]⟩, .string ⟨#[80, 58, 32, 97, 32, 124, 32, 98, 32, 124, 32, 99, 32, 124, 32, 100, 32, 124, 32, 97, 32, 97, 32, 124, 32, 97, 32, 98, 32, 124, 32, 97, 32, 99, 32, 124, 32, 98, 32, 97, 32, 124, 32, 98, 32, 98, 32, 124, 32, 98, 32, 99, 10]⟩] 9) = S at *
  go_loop [8, 9] (fun t i => ∃ (k : Nat) (l : List UInt8), i = .int .i64 k ∧ k ≤ len ∧ k ≤ 10 ∧ t = .string ⟨l.toArray⟩ ∧ l.length ≤ 53 * k) (fun _ i => 10 - (intOf i).toNat)
  case atStart => exact ⟨0, [], rfl, by omega, by omega, rfl, by simp⟩
  case round =>
    obtain ⟨k, l, rfl, hk, hk16, rfl, hl⟩ := hrel
    have hls : (ByteArray.mk l.toArray).size = l.length := rfl
    by_cases h1 : k < len
    · by_cases h2 : k < 10
      · obtain ⟨b, off, rfl, hb, hlm, hcell⟩ := HR.out.at_ (by omega)
        have c0 := (HS.out.cell (p := ⟨b, off + k, none⟩) hb).trans (hcell k h1)
        generalize zs.getD k 0 = p at c0
        obtain ⟨j, hj, hjp⟩ : ∃ j : Nat, j < 21 ∧ p % 21 = j := ⟨(p % 21).toNat, by omega, by omega⟩
        obtain ⟨x, hx⟩ : ∃ x, pieces[j]? = some x := ⟨_, List.getElem?_eq_getElem (by simpa [pieces] using hj)⟩
        have hxl := pieces_len x (List.mem_of_getElem? hx)
        have c1 := HQ.out j x hx
        have hcat : ∀ w, (Op.stringOp .add ⟨l.toArray⟩ ⟨x.toArray⟩).run Try.prog w = .ok (.string ⟨(l ++ x).toArray⟩) w := fun w => by
          rw [run_string_add_sum w _ _ (by show l.length + x.length ≤ _; omega)]
          have e : (⟨l.toArray⟩ : ByteArray) ++ ⟨x.toArray⟩ = ⟨(l ++ x).toArray⟩ := ByteArray.ext (by simp)
          rw [e]
        have e1 : (k : Int) < len := by omega
        have e2 : (k : Int) < 10 := by omega
        have e3 : (j : Int) < 21 := by omega
        clear hcell hx
        go_wp2_with (go_at_call 22; refine (within_any p 21 (by decide) (by decide) _).mono ?_; rintro e w' ⟨rfl, rfl⟩; rw [hjp])
        go_round
        case rel => exact ⟨k + 1, l ++ x, by go_num, by omega, by omega, rfl, by simp; omega⟩
        case measure => simp [intOf]; omega
      · have e1 : (k : Int) < len := by omega
        have e2 : ¬ (k : Int) < 10 := by omega
        go_wp2
        go_ret
        exact ⟨_, by rw [hls]; omega, rfl, HS.out⟩
    · have e1 : ¬ (k : Int) < len := by omega
      go_wp2
      go_ret
      exact ⟨_, by rw [hls]; omega, rfl, HS.out⟩
theorem text4_any (s : ByteArray) (raw : Bool) (a : Option Addr) (len cap : Nat) (zs : List Int) (w : World) (hr : IsRow .i64 w a len cap zs) :
    Calls Try.prog 30 #[.string s, .slice a len cap, .bool raw] w fun e w' => ∃ t : ByteArray, t.size ≤ 800 ∧ e = .returned (.string t) ∧ Below w.heap.size w w' := by
  cases raw
  · exact text4_picks s a len cap zs w hr
  · exact text4_raw s a len cap zs w hr

end Go.Proofs.Ytljoihhhfpmfeaa
