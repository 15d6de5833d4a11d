/- The law's own Text: whatever its arguments, some text of at most 200 bytes. -/
import Derived.Test.YtbliobeibfecaaaDoorCut
import Derived.Laws.Concat
import Derived.OpenShut
namespace Go.Proofs.YtbliobeibfecaaaDoor
open Go.RowKit
open Doc

theorem cut9_any (s : ByteArray) (n : Nat) (w : World) (hs : s.size ≤ maxLen) (hn : n ≤ 1000) :
    Calls Tryd.prog 36 #[.string s, .int .i64 n] w fun e w' => e = .returned (.string (s.extract 0 (min s.size n))) ∧ w' = w := by
  unfold maxLen at hs
  have h1 : (0 : Int) ≤ min (s.size : Int) n := by omega
  have h2 : min (s.size : Int) n ≤ s.size := by omega
  have h3 : (min (s.size : Int) n).toNat = min s.size n := by omega
  go_enter Tryd.func36, Tryd.ntmps36
  go_wp2
  all_goals
    go_ret
    refine ⟨?_, rfl⟩
    have e1 : s.extract 0 n = s.extract 0 (min s.size n) := by
      apply ByteArray.ext
      rw [ByteArray.data_extract, ByteArray.data_extract]
      apply Array.ext
      · simp only [Array.size_extract, ByteArray.size_data]; omega
      · intro i h1 h2
        rw [Array.getElem_extract, Array.getElem_extract]
    have e2 : s.size ≤ n → s = s.extract 0 (min s.size n) := fun hl => by
      apply ByteArray.ext
      rw [ByteArray.data_extract]
      apply Array.ext
      · simp only [Array.size_extract, ByteArray.size_data]; omega
      · intro i h1 h2
        rw [Array.getElem_extract]
        simp only [Nat.zero_add]
    first
      | rfl
      | (rw [← e1]; rfl)
      | (rw [← e2 (by omega)]; rfl)

def words : List (List UInt8) := [[83], [97], [65, 98, 99], [98, 49], [58], [124], [32], [32, 32], [10], [35, 32, 110, 111, 32, 58, 32, 124, 32, 65, 10], [83, 58, 32, 97, 32, 83, 32, 124, 32, 98, 10], [65, 58], [84], [97, 98, 99, 100, 101, 102, 103, 104], [97, 98, 99, 100, 101, 102, 103, 104, 105], [49, 97], [120, 57, 90], [35], [59], [195, 169], [9], [65, 98, 95]]
theorem words_len : ∀ x ∈ words, x.length ≤ 11 := by decide

/-- What the walk is told of a slice of integers that came in. -/
def IsRow (k : IntKind) (w : World) (a : Option Addr) (len cap : Nat) (zs : List Int) : Prop :=
  (a = none ∧ len = 0 ∧ cap = 0 ∧ zs = []) ∨
  ∃ x, a = some x ∧ len ≤ cap ∧ cap ≤ maxLen ∧ zs.length = cap ∧ (∀ i, i < zs.length → w.cell? (x.add i) = some (.int k (zs.getD i 0))) ∧ ∀ n ∈ zs, (Lit.int k n).wf = true

theorem IsRow.at_ {w : World} {a : Option Addr} {len cap : Nat} {zs : List Int} (h : IsRow .i64 w a len cap zs) (hl : 0 < len) : ∃ b off, a = some ⟨b, off, none⟩ ∧ b < w.heap.size ∧ len ≤ maxLen ∧ ∀ k, k < len → w.cell? ⟨b, off + k, none⟩ = some (.int .i64 (zs.getD k 0)) := by
  rcases h with ⟨_, h, _, _⟩ | ⟨x, rfl, hlc, hm, hzl, hc, _⟩
  · omega
  · obtain ⟨b, off, rfl, hc'⟩ := ints_at hc (by omega)
    exact ⟨b, off, rfl, World.block_lt_of_cell? w _ (hc' 0 (by omega)), by omega, fun k hk => hc' k (by omega)⟩

end Go.Proofs.YtbliobeibfecaaaDoor
