/- The law's own Text: whatever its arguments, some text of at most 200 bytes. -/
import Derived.Test.YtljoihhhfpmfeaaCut
import Derived.Laws.Concat
import Derived.OpenShut
namespace Go.Proofs.Ytljoihhhfpmfeaa
open Go.RowKit
open Doc

theorem cut9_any (s : ByteArray) (n : Nat) (w : World) (hs : s.size ≤ maxLen) (hn : n ≤ 1000) :
    Calls Try.prog 23 #[.string s, .int .i64 n] w fun e w' => e = .returned (.string (s.extract 0 (min s.size n))) ∧ w' = w := by
  unfold maxLen at hs
  have h1 : (0 : Int) ≤ min (s.size : Int) n := by omega
  have h2 : min (s.size : Int) n ≤ s.size := by omega
  have h3 : (min (s.size : Int) n).toNat = min s.size n := by omega
  go_enter Try.func23, Try.ntmps23
  go_wp2
  go_ret
  exact ⟨rfl, rfl⟩

def words : List (List UInt8) := [[83], [97], [65, 98, 99], [98, 49], [58], [124], [32], [32, 32], [10], [35, 32, 110, 111, 32, 58, 32, 124, 32, 65, 10], [83, 58, 32, 97, 32, 83, 32, 124, 32, 98, 10], [65, 58], [84], [97, 98, 99, 100, 101, 102, 103, 104], [97, 98, 99, 100, 101, 102, 103, 104, 105], [49, 97], [120, 57, 90], [35], [59], [195, 169], [9], [65, 98, 95]]
theorem words_len : ∀ x ∈ words, x.length ≤ 11 := by decide

/-- What the walk is told of a slice of integers that came in. -/
def IsRow (k : IntKind) (w : World) (a : Option Addr) (len cap : Nat) (zs : List Int) : Prop :=
  (a = none ∧ len = 0 ∧ cap = 0 ∧ zs = []) ∨
  ∃ x, a = some x ∧ len ≤ cap ∧ cap ≤ maxLen ∧ zs.length = cap ∧ (∀ i, i < zs.length → w.cell? (x.add i) = some (.int k (zs.getD i 0))) ∧ ∀ n ∈ zs, (Lit.int k n).wf = true

theorem IsRow.at_ {w : World} {a : Option Addr} {len cap : Nat} {zs : List Int} (h : IsRow .i64 w a len cap zs) (hl : 0 < len) : ∃ b off, a = some ⟨b, off, none⟩ ∧ b < w.heap.size ∧ len ≤ maxLen ∧ ∀ k, k < len → w.cell? ⟨b, off + k, none⟩ = some (.int .i64 (zs.getD k 0)) := by
  rcases h with ⟨_, h, _, _⟩ | ⟨x, rfl, hlc, hm, hzl, hc, _⟩
  · omega
  · obtain ⟨b, off, rfl, hc'⟩ := ints_at hc (by omega)
    exact ⟨b, off, rfl, World.block_lt_of_cell? w _ (hc' 0 (by omega)), by omega, fun k hk => hc' k (by omega)⟩

/-- What Text leaves. -/
theorem text_raw (s : ByteArray) (v : Value) (w : World) (hs : s.size ≤ maxLen) :
    Calls Try.prog 87 #[.string s, v, .bool true] w fun e w' => ∃ t : ByteArray, t.size ≤ 200 ∧ e = .returned (.string t) ∧ Below w.heap.size w w' := by
  have h1 := cut9_any s 90
  go_enter Try.func87, Try.ntmps87
  go_wp2_with (go_at_call 23; refine (h1 _ hs (by decide)).mono ?_; rintro e w' ⟨rfl, rfl⟩)
  go_ret
  exact ⟨_, by rw [ByteArray.size_extract]; omega, rfl, Below.refl _ _⟩

set_option maxRecDepth 100000 in
set_option maxHeartbeats 4000000 in
theorem text_picks (s : ByteArray) (a : Option Addr) (len cap : Nat) (zs : List Int) (w : World) (hr : IsRow .i64 w a len cap zs) :
    Calls Try.prog 87 #[.string s, .slice a len cap, .bool false] w fun e w' => ∃ t : ByteArray, t.size ≤ 200 ∧ e = .returned (.string t) ∧ Below w.heap.size w w' := by
  go_enter Try.func87, Try.ntmps87
  go_wp2
  have hS : Below w.heap.size w (w.alloc (.cells #[.string ⟨#[83]⟩, .string ⟨#[97]⟩, .string ⟨#[65, 98, 99]⟩, .string ⟨#[98, 49]⟩, .string ⟨#[58]⟩, .string ⟨#[124]⟩, .string ⟨#[32]⟩, .string ⟨#[32, 32]⟩, .string ⟨#[10]⟩, .string ⟨#[35, 32, 110, 111, 32, 58, 32, 124, 32, 65, 10]⟩, .string ⟨#[83, 58, 32, 97, 32, 83, 32, 124, 32, 98, 10]⟩, .string ⟨#[65, 58]⟩, .string ⟨#[84]⟩, .string ⟨#[97, 98, 99, 100, 101, 102, 103, 104]⟩, .string ⟨#[97, 98, 99, 100, 101, 102, 103, 104, 105]⟩, .string ⟨#[49, 97]⟩, .string ⟨#[120, 57, 90]⟩, .string ⟨#[35]⟩, .string ⟨#[59]⟩, .string ⟨#[195, 169]⟩, .string ⟨#[9]⟩, .string ⟨#[65, 98, 95]⟩] 9)) := (Below.refl _ _).alloc (Nat.le_refl _) _
  have hq : ∀ k x, words[k]? = some x → (w.alloc (.cells #[.string ⟨#[83]⟩, .string ⟨#[97]⟩, .string ⟨#[65, 98, 99]⟩, .string ⟨#[98, 49]⟩, .string ⟨#[58]⟩, .string ⟨#[124]⟩, .string ⟨#[32]⟩, .string ⟨#[32, 32]⟩, .string ⟨#[10]⟩, .string ⟨#[35, 32, 110, 111, 32, 58, 32, 124, 32, 65, 10]⟩, .string ⟨#[83, 58, 32, 97, 32, 83, 32, 124, 32, 98, 10]⟩, .string ⟨#[65, 58]⟩, .string ⟨#[84]⟩, .string ⟨#[97, 98, 99, 100, 101, 102, 103, 104]⟩, .string ⟨#[97, 98, 99, 100, 101, 102, 103, 104, 105]⟩, .string ⟨#[49, 97]⟩, .string ⟨#[120, 57, 90]⟩, .string ⟨#[35]⟩, .string ⟨#[59]⟩, .string ⟨#[195, 169]⟩, .string ⟨#[9]⟩, .string ⟨#[65, 98, 95]⟩] 9)).cell? ⟨w.heap.size, k, none⟩ = some (.string ⟨x.toArray⟩) := fun k x hx => by
    have hn := World.news_of_block (heap_alloc_new w (.cells #[.string ⟨#[83]⟩, .string ⟨#[97]⟩, .string ⟨#[65, 98, 99]⟩, .string ⟨#[98, 49]⟩, .string ⟨#[58]⟩, .string ⟨#[124]⟩, .string ⟨#[32]⟩, .string ⟨#[32, 32]⟩, .string ⟨#[10]⟩, .string ⟨#[35, 32, 110, 111, 32, 58, 32, 124, 32, 65, 10]⟩, .string ⟨#[83, 58, 32, 97, 32, 83, 32, 124, 32, 98, 10]⟩, .string ⟨#[65, 58]⟩, .string ⟨#[84]⟩, .string ⟨#[97, 98, 99, 100, 101, 102, 103, 104]⟩, .string ⟨#[97, 98, 99, 100, 101, 102, 103, 104, 105]⟩, .string ⟨#[49, 97]⟩, .string ⟨#[120, 57, 90]⟩, .string ⟨#[35]⟩, .string ⟨#[59]⟩, .string ⟨#[195, 169]⟩, .string ⟨#[9]⟩, .string ⟨#[65, 98, 95]⟩] 9)) k (.string ⟨x.toArray⟩) (by
      have hA : (#[.string ⟨#[83]⟩, .string ⟨#[97]⟩, .string ⟨#[65, 98, 99]⟩, .string ⟨#[98, 49]⟩, .string ⟨#[58]⟩, .string ⟨#[124]⟩, .string ⟨#[32]⟩, .string ⟨#[32, 32]⟩, .string ⟨#[10]⟩, .string ⟨#[35, 32, 110, 111, 32, 58, 32, 124, 32, 65, 10]⟩, .string ⟨#[83, 58, 32, 97, 32, 83, 32, 124, 32, 98, 10]⟩, .string ⟨#[65, 58]⟩, .string ⟨#[84]⟩, .string ⟨#[97, 98, 99, 100, 101, 102, 103, 104]⟩, .string ⟨#[97, 98, 99, 100, 101, 102, 103, 104, 105]⟩, .string ⟨#[49, 97]⟩, .string ⟨#[120, 57, 90]⟩, .string ⟨#[35]⟩, .string ⟨#[59]⟩, .string ⟨#[195, 169]⟩, .string ⟨#[9]⟩, .string ⟨#[65, 98, 95]⟩] : Array Value).toList = words.map (fun x => .string ⟨x.toArray⟩) := rfl
      rw [hA, List.getElem?_map, hx]; rfl)
    have hadd : (⟨w.heap.size, 0, none⟩ : Addr).add k = ⟨w.heap.size, k, none⟩ := by unfold Addr.add; split <;> simp_all
    exact hadd ▸ hn
  generalize w.alloc (.cells #[.string ⟨#[83]⟩, .string ⟨#[97]⟩, .string ⟨#[65, 98, 99]⟩, .string ⟨#[98, 49]⟩, .string ⟨#[58]⟩, .string ⟨#[124]⟩, .string ⟨#[32]⟩, .string ⟨#[32, 32]⟩, .string ⟨#[10]⟩, .string ⟨#[35, 32, 110, 111, 32, 58, 32, 124, 32, 65, 10]⟩, .string ⟨#[83, 58, 32, 97, 32, 83, 32, 124, 32, 98, 10]⟩, .string ⟨#[65, 58]⟩, .string ⟨#[84]⟩, .string ⟨#[97, 98, 99, 100, 101, 102, 103, 104]⟩, .string ⟨#[97, 98, 99, 100, 101, 102, 103, 104, 105]⟩, .string ⟨#[49, 97]⟩, .string ⟨#[120, 57, 90]⟩, .string ⟨#[35]⟩, .string ⟨#[59]⟩, .string ⟨#[195, 169]⟩, .string ⟨#[9]⟩, .string ⟨#[65, 98, 95]⟩] 9) = S at *
  have HQ := Lib.hid hq
  clear hq
  go_loop [8, 9] (fun t i => ∃ (k : Nat) (l : List UInt8), i = .int .i64 k ∧ k ≤ len ∧ k ≤ 16 ∧ t = .string ⟨l.toArray⟩ ∧ l.length ≤ 11 * k) (fun _ i => 16 - (intOf i).toNat)
  case atStart => exact ⟨0, [], rfl, by omega, by omega, rfl, by simp⟩
  case round =>
    obtain ⟨k, l, rfl, hk, hk16, rfl, hl⟩ := hrel
    have hls : (ByteArray.mk l.toArray).size = l.length := rfl
    by_cases h1 : k < len
    · by_cases h2 : k < 16
      · obtain ⟨b, off, rfl, hb, hlm, hcell⟩ := hr.at_ (by omega)
        have c0 := (hS.cell (p := ⟨b, off + k, none⟩) hb).trans (hcell k h1)
        generalize zs.getD k 0 = p at c0
        obtain ⟨j, hj, hjp⟩ : ∃ j : Nat, j < 22 ∧ p % 22 = j := ⟨(p % 22).toNat, by omega, by omega⟩
        obtain ⟨x, hx⟩ : ∃ x, words[j]? = some x := ⟨_, List.getElem?_eq_getElem (by simpa [words] using hj)⟩
        have hxl := words_len x (List.mem_of_getElem? hx)
        have c1 := HQ.out j x hx
        have hcat : ∀ w, (Op.stringOp .add ⟨l.toArray⟩ ⟨x.toArray⟩).run Try.prog w = .ok (.string ⟨(l ++ x).toArray⟩) w := fun w => by
          rw [run_string_add_sum w _ _ (by show l.length + x.length ≤ _; omega)]
          have e : (⟨l.toArray⟩ : ByteArray) ++ ⟨x.toArray⟩ = ⟨(l ++ x).toArray⟩ := ByteArray.ext (by simp)
          rw [e]
        have e1 : (k : Int) < len := by omega
        have e2 : (k : Int) < 16 := by omega
        have e3 : (j : Int) < 22 := by omega
        go_wp2_with (go_at_call 22; refine (within_any p 22 (by decide) (by decide) _).mono ?_; rintro e w' ⟨rfl, rfl⟩; rw [hjp])
        go_round
        case rel => exact ⟨k + 1, l ++ x, by go_num, by omega, by omega, rfl, by simp; omega⟩
        case measure => simp [intOf]; omega
      · have e1 : (k : Int) < len := by omega
        have e2 : ¬ (k : Int) < 16 := by omega
        go_wp2
        go_ret
        exact ⟨_, by rw [hls]; omega, rfl, hS⟩
    · have e1 : ¬ (k : Int) < len := by omega
      go_wp2
      go_ret
      exact ⟨_, by rw [hls]; omega, rfl, hS⟩

end Go.Proofs.Ytljoihhhfpmfeaa
