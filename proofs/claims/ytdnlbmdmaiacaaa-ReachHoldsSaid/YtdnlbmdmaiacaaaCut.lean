/- What strings.Cut gives at a line's end, and strings.Clone: whatever the world. -/
import Derived.Test.YtdnlbmdmaiacaaaRow
import Derived.Test.YtdnlbmdmaiacaaaShelf
import Derived.Shelf.RegionOpenPlain
import Derived.Deep.AppendLies
namespace Go.Proofs.Ytdnlbmdmaiacaaa
open Go.RowKit
open Doc

theorem byte_ten : ∀ l : List UInt8, (Lib.indexByte l 10 = -1 ∧ head l = l ∧ rest l = []) ∨ (∃ i : Nat, Lib.indexByte l 10 = i ∧ i < l.length ∧ head l = l.take i ∧ rest l = l.drop (i + 1))
  | [] => .inl ⟨rfl, rfl, rfl⟩
  | b :: l => by
    by_cases hb : b = 10
    · subst hb
      exact .inr ⟨0, rfl, by simp, by simp [head], by simp [rest]⟩
    · have hh : head (b :: l) = b :: head l := by simp [head, hb]
      have hr : rest (b :: l) = rest l := by simp [rest, hb]
      have hq : (b == 10) = false := by simpa using hb
      rcases byte_ten l with ⟨h1, h2, h3⟩ | ⟨i, h1, hi, h2, h3⟩
      · left
        refine ⟨?_, by rw [hh, h2], by rw [hr, h3]⟩
        unfold Lib.indexByte
        rw [hq, h1]; rfl
      · right
        refine ⟨i + 1, ?_, by simpa using hi, by rw [hh, h2]; rfl, by rw [hr, h3]; rfl⟩
        unfold Lib.indexByte
        rw [hq, h1]
        have : ((i : Int) == -1) = false := by rw [beq_eq_false_iff_ne]; omega
        simp [this]

theorem ext_take (s : ByteArray) (n : Nat) (l : List UInt8) (h : l = s.data.toList.take n) : (⟨l.toArray⟩ : ByteArray) = s.extract 0 n := by
  subst h; rw [Lib.extract_eq]; simp
theorem ext_drop (s : ByteArray) (n : Nat) (l : List UInt8) (h : l = s.data.toList.drop n) : (⟨l.toArray⟩ : ByteArray) = s.extract n s.size := by
  subst h; rw [Lib.extract_eq, List.take_of_length_le (by rw [List.length_drop, ← Lib.size_eq]; exact Nat.le_refl _)]

set_option maxHeartbeats 1000000 in
theorem scut_any (s : ByteArray) (w : World) (hs : s.size ≤ maxLen) :
    Calls Try.prog 119 #[.string s, .string ⟨#[10]⟩] w fun e w' => ∃ b, e = .returned (.tuple #[.string ⟨(head s.data.toList).toArray⟩, .string ⟨(rest s.data.toList).toArray⟩, .bool b]) ∧ ∃ n, w' = w.drewN n := by
  unfold maxLen at hs
  rcases byte_ten s.data.toList with ⟨h1, h2, h3⟩ | ⟨i, h1, hi, h2, h3⟩
  · rw [h2, h3]
    have HH := Lib.hid h1
    clear h1 h2 h3
    go_enter Try.func119, Try.ntmps119
    go_wp2_with (go_at_call 126; refine (Try.stringslite_Index_one s 10 _).mono ?_; rintro e w' ⟨rfl, rfl⟩; rw [HH.out])
    go_ret3
    exact ⟨_, by first | rfl | simp, 0, rfl⟩
  · have hi' : i < s.size := by rw [Lib.size_eq]; exact hi
    rw [ext_take s i _ h2, ext_drop s (i + 1) _ h3]
    have HH := Lib.hid h1
    clear h1 h2 h3
    have c1 : (0 : Int) ≤ ↑i := by omega
    have c2 : (↑i : Int) ≤ ↑s.size := by omega
    have c3 : (0 : Int) ≤ ↑i + 1 := by omega
    have c4 : (↑i + 1 : Int) ≤ ↑s.size := by omega
    have c5 : IntKind.i64.wrap (↑i + 1) = (↑i : Int) + 1 := by rw [IntKind.wrap_i64]; omega
    have mixed : Try.prog.follows Departure.mixedOrders = true := by kernel_rfl
    go_enter Try.func119, Try.ntmps119
    go_wp2_with (go_at_call 126; refine (Try.stringslite_Index_one s 10 _).mono ?_; rintro e w' ⟨rfl, rfl⟩; rw [HH.out])
    go_region_o
    go_wp2
    go_ret3
    exact ⟨_, rfl, 1, rfl⟩

theorem cut_any (s : ByteArray) (w : World) (hs : s.size ≤ maxLen) :
    Calls Try.prog 108 #[.string s, .string ⟨#[10]⟩] w fun e w' => ∃ b, e = .returned (.tuple #[.string ⟨(head s.data.toList).toArray⟩, .string ⟨(rest s.data.toList).toArray⟩, .bool b]) ∧ ∃ n, w' = w.drewN n := by
  go_enter Try.func108, Try.ntmps108
  go_wp2_with (go_at_call 119; refine (scut_any s _ hs).mono ?_; rintro e w' ⟨b, rfl, n, rfl⟩)
  go_ret3
  exact ⟨_, rfl, n, rfl⟩

theorem clone_any (s : ByteArray) (w : World) (hs : s.size ≤ 1000000) :
    Calls Try.prog 70 #[.string s] w fun e w' => e = .returned (.string s) ∧ Below w.heap.size w w' := by
  go_enter Try.func70, Try.ntmps70
  go_wp2_with (go_at_call 103; refine (Try.stringslite_Clone s _ (by omega)).mono ?_; rintro e w' ⟨rfl, hb⟩)
  go_ret
  exact ⟨rfl, hb⟩

end Go.Proofs.Ytdnlbmdmaiacaaa
