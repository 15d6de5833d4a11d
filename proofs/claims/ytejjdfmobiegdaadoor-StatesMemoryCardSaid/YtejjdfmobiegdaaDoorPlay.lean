/- exegeteplay's texts, and the grammars that are read of them. -/
import Derived.Test.YtejjdfmobiegdaaDoorGParse
import Derived.Test.YtejjdfmobiegdaaDoorRaw
import Derived.Laws.Concat
set_option linter.unusedVariables false
namespace Go.Proofs.YtejjdfmobiegdaaDoor
open Go.RowKit
open Doc

def textsL : List (List UInt8) := [[83, 58, 32, 97, 10], [83, 58, 32, 97, 32, 83, 32, 124, 32, 98, 10], [83, 58, 32, 83, 32, 97, 32, 124, 32, 98, 10], [83, 58, 32, 97, 32, 83, 32, 98, 32, 124, 10], [83, 58, 32, 65, 32, 65, 10, 65, 58, 32, 97, 32, 65, 32, 124, 32, 98, 10], [69, 58, 32, 69, 32, 112, 32, 84, 32, 124, 32, 84, 10, 84, 58, 32, 84, 32, 109, 32, 70, 32, 124, 32, 70, 10, 70, 58, 32, 105, 32, 124, 32, 108, 32, 69, 32, 114, 10], [83, 58, 32, 65, 32, 97, 32, 124, 32, 98, 32, 65, 32, 99, 32, 124, 32, 100, 32, 99, 32, 124, 32, 98, 32, 100, 32, 97, 10, 65, 58, 32, 100, 10], [83, 58, 32, 97, 32, 65, 32, 100, 32, 124, 32, 98, 32, 66, 32, 100, 32, 124, 32, 97, 32, 66, 32, 101, 32, 124, 32, 98, 32, 65, 32, 101, 10, 65, 58, 32, 99, 10, 66, 58, 32, 99, 10], [83, 58, 32, 65, 32, 66, 10, 65, 58, 32, 97, 32, 65, 32, 124, 10, 66, 58, 32, 98, 32, 66, 32, 124, 10], [83, 58, 32, 76, 32, 113, 32, 82, 32, 124, 32, 82, 10, 76, 58, 32, 109, 32, 82, 32, 124, 32, 105, 10, 82, 58, 32, 76, 10], [83, 58, 32, 97, 32, 85, 32, 124, 32, 98, 10, 85, 58, 32, 85, 32, 97, 10], [83, 58, 32, 97, 32, 84, 32, 124, 32, 98, 10, 84, 58, 32, 98, 32, 83, 32, 124, 32, 97, 10, 86, 58, 32, 97, 32, 97, 10], [83, 58, 10, 84, 58, 32, 97, 10], [83, 58, 32, 65, 32, 98, 10, 65, 58, 32, 97, 32, 124, 32, 66, 10, 66, 58, 10], [83, 58, 32, 108, 32, 83, 32, 114, 32, 83, 32, 124, 10], [83, 58, 32, 97, 32, 65, 10, 65, 58, 32, 98, 32, 66, 32, 124, 32, 99, 10, 66, 58, 32, 97, 32, 65, 32, 124, 32, 100, 32, 83, 10], [83, 58, 32, 65, 32, 99, 10, 65, 58, 32, 66, 32, 97, 32, 124, 32, 97, 32, 98, 10, 66, 58, 32, 97, 32, 124, 32, 98, 10], [83, 58, 32, 83, 32, 83, 32, 124, 32, 97, 10], [83, 58, 32, 97, 32, 83, 32, 124, 32, 83, 32, 98, 32, 124, 32, 97, 10], [83, 58, 32, 105, 32, 83, 32, 124, 32, 105, 32, 83, 32, 101, 32, 83, 32, 124, 32, 97, 10], [83, 58, 32, 65, 32, 124, 32, 66, 10, 65, 58, 32, 97, 10, 66, 58, 32, 97, 10], [69, 58, 32, 69, 32, 112, 32, 69, 32, 124, 32, 69, 32, 109, 32, 69, 32, 124, 32, 105, 10], [83, 58, 32, 83, 32, 124, 32, 97, 10], [83, 58, 32, 65, 32, 83, 32, 124, 32, 97, 10, 65, 58, 10], [83, 58, 32, 65, 32, 66, 32, 99, 10, 65, 58, 32, 97, 32, 124, 10, 66, 58, 32, 97, 32, 124, 10], [83, 58, 32, 83, 32, 97, 32, 124, 32, 97, 32, 83, 32, 124, 32, 97, 10], [83, 58, 32, 65, 32, 97, 32, 124, 32, 66, 32, 97, 10, 65, 58, 32, 98, 10, 66, 58, 32, 98, 10]]
theorem texts_len : ∀ x ∈ textsL, x.length ≤ 43 := by decide
def okT (t : List UInt8) : Bool := match parse t with | .ok _ => true | .bad _ _ _ => false
theorem texts_ok : ∀ x ∈ textsL, okT x = true := by decide +kernel
theorem okT_ok {t : List UInt8} (h : okT t = true) : ∃ g, parse t = .ok g := by
  unfold okT at h
  cases hp : parse t with
  | ok g => exact ⟨g, rfl⟩
  | bad _ _ _ => rw [hp] at h; cases h

theorem texts_any (w : World) : Calls Tryd.prog 70 #[] w fun e w' => e = .returned (.slice (some ⟨w.heap.size, 0, none⟩) 27 27) ∧ Below w.heap.size w w' ∧ w.heap.size < w'.heap.size ∧ ∀ k x, textsL[k]? = some x → w'.cell? ⟨w.heap.size, k, none⟩ = some (.string ⟨x.toArray⟩) := by
  have hS : Below w.heap.size w (w.alloc (.cells #[.string ⟨#[83, 58, 32, 97, 10]⟩, .string ⟨#[83, 58, 32, 97, 32, 83, 32, 124, 32, 98, 10]⟩, .string ⟨#[83, 58, 32, 83, 32, 97, 32, 124, 32, 98, 10]⟩, .string ⟨#[83, 58, 32, 97, 32, 83, 32, 98, 32, 124, 10]⟩, .string ⟨#[83, 58, 32, 65, 32, 65, 10, 65, 58, 32, 97, 32, 65, 32, 124, 32, 98, 10]⟩, .string ⟨#[69, 58, 32, 69, 32, 112, 32, 84, 32, 124, 32, 84, 10, 84, 58, 32, 84, 32, 109, 32, 70, 32, 124, 32, 70, 10, 70, 58, 32, 105, 32, 124, 32, 108, 32, 69, 32, 114, 10]⟩, .string ⟨#[83, 58, 32, 65, 32, 97, 32, 124, 32, 98, 32, 65, 32, 99, 32, 124, 32, 100, 32, 99, 32, 124, 32, 98, 32, 100, 32, 97, 10, 65, 58, 32, 100, 10]⟩, .string ⟨#[83, 58, 32, 97, 32, 65, 32, 100, 32, 124, 32, 98, 32, 66, 32, 100, 32, 124, 32, 97, 32, 66, 32, 101, 32, 124, 32, 98, 32, 65, 32, 101, 10, 65, 58, 32, 99, 10, 66, 58, 32, 99, 10]⟩, .string ⟨#[83, 58, 32, 65, 32, 66, 10, 65, 58, 32, 97, 32, 65, 32, 124, 10, 66, 58, 32, 98, 32, 66, 32, 124, 10]⟩, .string ⟨#[83, 58, 32, 76, 32, 113, 32, 82, 32, 124, 32, 82, 10, 76, 58, 32, 109, 32, 82, 32, 124, 32, 105, 10, 82, 58, 32, 76, 10]⟩, .string ⟨#[83, 58, 32, 97, 32, 85, 32, 124, 32, 98, 10, 85, 58, 32, 85, 32, 97, 10]⟩, .string ⟨#[83, 58, 32, 97, 32, 84, 32, 124, 32, 98, 10, 84, 58, 32, 98, 32, 83, 32, 124, 32, 97, 10, 86, 58, 32, 97, 32, 97, 10]⟩, .string ⟨#[83, 58, 10, 84, 58, 32, 97, 10]⟩, .string ⟨#[83, 58, 32, 65, 32, 98, 10, 65, 58, 32, 97, 32, 124, 32, 66, 10, 66, 58, 10]⟩, .string ⟨#[83, 58, 32, 108, 32, 83, 32, 114, 32, 83, 32, 124, 10]⟩, .string ⟨#[83, 58, 32, 97, 32, 65, 10, 65, 58, 32, 98, 32, 66, 32, 124, 32, 99, 10, 66, 58, 32, 97, 32, 65, 32, 124, 32, 100, 32, 83, 10]⟩, .string ⟨#[83, 58, 32, 65, 32, 99, 10, 65, 58, 32, 66, 32, 97, 32, 124, 32, 97, 32, 98, 10, 66, 58, 32, 97, 32, 124, 32, 98, 10]⟩, .string ⟨#[83, 58, 32, 83, 32, 83, 32, 124, 32, 97, 10]⟩, .string ⟨#[83, 58, 32, 97, 32, 83, 32, 124, 32, 83, 32, 98, 32, 124, 32, 97, 10]⟩, .string ⟨#[83, 58, 32, 105, 32, 83, 32, 124, 32, 105, 32, 83, 32, 101, 32, 83, 32, 124, 32, 97, 10]⟩, .string ⟨#[83, 58, 32, 65, 32, 124, 32, 66, 10, 65, 58, 32, 97, 10, 66, 58, 32, 97, 10]⟩, .string ⟨#[69, 58, 32, 69, 32, 112, 32, 69, 32, 124, 32, 69, 32, 109, 32, 69, 32, 124, 32, 105, 10]⟩, .string ⟨#[83, 58, 32, 83, 32, 124, 32, 97, 10]⟩, .string ⟨#[83, 58, 32, 65, 32, 83, 32, 124, 32, 97, 10, 65, 58, 10]⟩, .string ⟨#[83, 58, 32, 65, 32, 66, 32, 99, 10, 65, 58, 32, 97, 32, 124, 10, 66, 58, 32, 97, 32, 124, 10]⟩, .string ⟨#[83, 58, 32, 83, 32, 97, 32, 124, 32, 97, 32, 83, 32, 124, 32, 97, 10]⟩, .string ⟨#[83, 58, 32, 65, 32, 97, 32, 124, 32, 66, 32, 97, 10, 65, 58, 32, 98, 10, 66, 58, 32, 98, 10]⟩] 9)) := (Below.refl _ _).alloc (Nat.le_refl _) _
  have hq : ∀ k x, textsL[k]? = some x → (w.alloc (.cells #[.string ⟨#[83, 58, 32, 97, 10]⟩, .string ⟨#[83, 58, 32, 97, 32, 83, 32, 124, 32, 98, 10]⟩, .string ⟨#[83, 58, 32, 83, 32, 97, 32, 124, 32, 98, 10]⟩, .string ⟨#[83, 58, 32, 97, 32, 83, 32, 98, 32, 124, 10]⟩, .string ⟨#[83, 58, 32, 65, 32, 65, 10, 65, 58, 32, 97, 32, 65, 32, 124, 32, 98, 10]⟩, .string ⟨#[69, 58, 32, 69, 32, 112, 32, 84, 32, 124, 32, 84, 10, 84, 58, 32, 84, 32, 109, 32, 70, 32, 124, 32, 70, 10, 70, 58, 32, 105, 32, 124, 32, 108, 32, 69, 32, 114, 10]⟩, .string ⟨#[83, 58, 32, 65, 32, 97, 32, 124, 32, 98, 32, 65, 32, 99, 32, 124, 32, 100, 32, 99, 32, 124, 32, 98, 32, 100, 32, 97, 10, 65, 58, 32, 100, 10]⟩, .string ⟨#[83, 58, 32, 97, 32, 65, 32, 100, 32, 124, 32, 98, 32, 66, 32, 100, 32, 124, 32, 97, 32, 66, 32, 101, 32, 124, 32, 98, 32, 65, 32, 101, 10, 65, 58, 32, 99, 10, 66, 58, 32, 99, 10]⟩, .string ⟨#[83, 58, 32, 65, 32, 66, 10, 65, 58, 32, 97, 32, 65, 32, 124, 10, 66, 58, 32, 98, 32, 66, 32, 124, 10]⟩, .string ⟨#[83, 58, 32, 76, 32, 113, 32, 82, 32, 124, 32, 82, 10, 76, 58, 32, 109, 32, 82, 32, 124, 32, 105, 10, 82, 58, 32, 76, 10]⟩, .string ⟨#[83, 58, 32, 97, 32, 85, 32, 124, 32, 98, 10, 85, 58, 32, 85, 32, 97, 10]⟩, .string ⟨#[83, 58, 32, 97, 32, 84, 32, 124, 32, 98, 10, 84, 58, 32, 98, 32, 83, 32, 124, 32, 97, 10, 86, 58, 32, 97, 32, 97, 10]⟩, .string ⟨#[83, 58, 10, 84, 58, 32, 97, 10]⟩, .string ⟨#[83, 58, 32, 65, 32, 98, 10, 65, 58, 32, 97, 32, 124, 32, 66, 10, 66, 58, 10]⟩, .string ⟨#[83, 58, 32, 108, 32, 83, 32, 114, 32, 83, 32, 124, 10]⟩, .string ⟨#[83, 58, 32, 97, 32, 65, 10, 65, 58, 32, 98, 32, 66, 32, 124, 32, 99, 10, 66, 58, 32, 97, 32, 65, 32, 124, 32, 100, 32, 83, 10]⟩, .string ⟨#[83, 58, 32, 65, 32, 99, 10, 65, 58, 32, 66, 32, 97, 32, 124, 32, 97, 32, 98, 10, 66, 58, 32, 97, 32, 124, 32, 98, 10]⟩, .string ⟨#[83, 58, 32, 83, 32, 83, 32, 124, 32, 97, 10]⟩, .string ⟨#[83, 58, 32, 97, 32, 83, 32, 124, 32, 83, 32, 98, 32, 124, 32, 97, 10]⟩, .string ⟨#[83, 58, 32, 105, 32, 83, 32, 124, 32, 105, 32, 83, 32, 101, 32, 83, 32, 124, 32, 97, 10]⟩, .string ⟨#[83, 58, 32, 65, 32, 124, 32, 66, 10, 65, 58, 32, 97, 10, 66, 58, 32, 97, 10]⟩, .string ⟨#[69, 58, 32, 69, 32, 112, 32, 69, 32, 124, 32, 69, 32, 109, 32, 69, 32, 124, 32, 105, 10]⟩, .string ⟨#[83, 58, 32, 83, 32, 124, 32, 97, 10]⟩, .string ⟨#[83, 58, 32, 65, 32, 83, 32, 124, 32, 97, 10, 65, 58, 10]⟩, .string ⟨#[83, 58, 32, 65, 32, 66, 32, 99, 10, 65, 58, 32, 97, 32, 124, 10, 66, 58, 32, 97, 32, 124, 10]⟩, .string ⟨#[83, 58, 32, 83, 32, 97, 32, 124, 32, 97, 32, 83, 32, 124, 32, 97, 10]⟩, .string ⟨#[83, 58, 32, 65, 32, 97, 32, 124, 32, 66, 32, 97, 10, 65, 58, 32, 98, 10, 66, 58, 32, 98, 10]⟩] 9)).cell? ⟨w.heap.size, k, none⟩ = some (.string ⟨x.toArray⟩) := fun k x hx => by
    have hn := World.news_of_block (heap_alloc_new w (.cells #[.string ⟨#[83, 58, 32, 97, 10]⟩, .string ⟨#[83, 58, 32, 97, 32, 83, 32, 124, 32, 98, 10]⟩, .string ⟨#[83, 58, 32, 83, 32, 97, 32, 124, 32, 98, 10]⟩, .string ⟨#[83, 58, 32, 97, 32, 83, 32, 98, 32, 124, 10]⟩, .string ⟨#[83, 58, 32, 65, 32, 65, 10, 65, 58, 32, 97, 32, 65, 32, 124, 32, 98, 10]⟩, .string ⟨#[69, 58, 32, 69, 32, 112, 32, 84, 32, 124, 32, 84, 10, 84, 58, 32, 84, 32, 109, 32, 70, 32, 124, 32, 70, 10, 70, 58, 32, 105, 32, 124, 32, 108, 32, 69, 32, 114, 10]⟩, .string ⟨#[83, 58, 32, 65, 32, 97, 32, 124, 32, 98, 32, 65, 32, 99, 32, 124, 32, 100, 32, 99, 32, 124, 32, 98, 32, 100, 32, 97, 10, 65, 58, 32, 100, 10]⟩, .string ⟨#[83, 58, 32, 97, 32, 65, 32, 100, 32, 124, 32, 98, 32, 66, 32, 100, 32, 124, 32, 97, 32, 66, 32, 101, 32, 124, 32, 98, 32, 65, 32, 101, 10, 65, 58, 32, 99, 10, 66, 58, 32, 99, 10]⟩, .string ⟨#[83, 58, 32, 65, 32, 66, 10, 65, 58, 32, 97, 32, 65, 32, 124, 10, 66, 58, 32, 98, 32, 66, 32, 124, 10]⟩, .string ⟨#[83, 58, 32, 76, 32, 113, 32, 82, 32, 124, 32, 82, 10, 76, 58, 32, 109, 32, 82, 32, 124, 32, 105, 10, 82, 58, 32, 76, 10]⟩, .string ⟨#[83, 58, 32, 97, 32, 85, 32, 124, 32, 98, 10, 85, 58, 32, 85, 32, 97, 10]⟩, .string ⟨#[83, 58, 32, 97, 32, 84, 32, 124, 32, 98, 10, 84, 58, 32, 98, 32, 83, 32, 124, 32, 97, 10, 86, 58, 32, 97, 32, 97, 10]⟩, .string ⟨#[83, 58, 10, 84, 58, 32, 97, 10]⟩, .string ⟨#[83, 58, 32, 65, 32, 98, 10, 65, 58, 32, 97, 32, 124, 32, 66, 10, 66, 58, 10]⟩, .string ⟨#[83, 58, 32, 108, 32, 83, 32, 114, 32, 83, 32, 124, 10]⟩, .string ⟨#[83, 58, 32, 97, 32, 65, 10, 65, 58, 32, 98, 32, 66, 32, 124, 32, 99, 10, 66, 58, 32, 97, 32, 65, 32, 124, 32, 100, 32, 83, 10]⟩, .string ⟨#[83, 58, 32, 65, 32, 99, 10, 65, 58, 32, 66, 32, 97, 32, 124, 32, 97, 32, 98, 10, 66, 58, 32, 97, 32, 124, 32, 98, 10]⟩, .string ⟨#[83, 58, 32, 83, 32, 83, 32, 124, 32, 97, 10]⟩, .string ⟨#[83, 58, 32, 97, 32, 83, 32, 124, 32, 83, 32, 98, 32, 124, 32, 97, 10]⟩, .string ⟨#[83, 58, 32, 105, 32, 83, 32, 124, 32, 105, 32, 83, 32, 101, 32, 83, 32, 124, 32, 97, 10]⟩, .string ⟨#[83, 58, 32, 65, 32, 124, 32, 66, 10, 65, 58, 32, 97, 10, 66, 58, 32, 97, 10]⟩, .string ⟨#[69, 58, 32, 69, 32, 112, 32, 69, 32, 124, 32, 69, 32, 109, 32, 69, 32, 124, 32, 105, 10]⟩, .string ⟨#[83, 58, 32, 83, 32, 124, 32, 97, 10]⟩, .string ⟨#[83, 58, 32, 65, 32, 83, 32, 124, 32, 97, 10, 65, 58, 10]⟩, .string ⟨#[83, 58, 32, 65, 32, 66, 32, 99, 10, 65, 58, 32, 97, 32, 124, 10, 66, 58, 32, 97, 32, 124, 10]⟩, .string ⟨#[83, 58, 32, 83, 32, 97, 32, 124, 32, 97, 32, 83, 32, 124, 32, 97, 10]⟩, .string ⟨#[83, 58, 32, 65, 32, 97, 32, 124, 32, 66, 32, 97, 10, 65, 58, 32, 98, 10, 66, 58, 32, 98, 10]⟩] 9)) k (.string ⟨x.toArray⟩) (by
      have hA : (#[.string ⟨#[83, 58, 32, 97, 10]⟩, .string ⟨#[83, 58, 32, 97, 32, 83, 32, 124, 32, 98, 10]⟩, .string ⟨#[83, 58, 32, 83, 32, 97, 32, 124, 32, 98, 10]⟩, .string ⟨#[83, 58, 32, 97, 32, 83, 32, 98, 32, 124, 10]⟩, .string ⟨#[83, 58, 32, 65, 32, 65, 10, 65, 58, 32, 97, 32, 65, 32, 124, 32, 98, 10]⟩, .string ⟨#[69, 58, 32, 69, 32, 112, 32, 84, 32, 124, 32, 84, 10, 84, 58, 32, 84, 32, 109, 32, 70, 32, 124, 32, 70, 10, 70, 58, 32, 105, 32, 124, 32, 108, 32, 69, 32, 114, 10]⟩, .string ⟨#[83, 58, 32, 65, 32, 97, 32, 124, 32, 98, 32, 65, 32, 99, 32, 124, 32, 100, 32, 99, 32, 124, 32, 98, 32, 100, 32, 97, 10, 65, 58, 32, 100, 10]⟩, .string ⟨#[83, 58, 32, 97, 32, 65, 32, 100, 32, 124, 32, 98, 32, 66, 32, 100, 32, 124, 32, 97, 32, 66, 32, 101, 32, 124, 32, 98, 32, 65, 32, 101, 10, 65, 58, 32, 99, 10, 66, 58, 32, 99, 10]⟩, .string ⟨#[83, 58, 32, 65, 32, 66, 10, 65, 58, 32, 97, 32, 65, 32, 124, 10, 66, 58, 32, 98, 32, 66, 32, 124, 10]⟩, .string ⟨#[83, 58, 32, 76, 32, 113, 32, 82, 32, 124, 32, 82, 10, 76, 58, 32, 109, 32, 82, 32, 124, 32, 105, 10, 82, 58, 32, 76, 10]⟩, .string ⟨#[83, 58, 32, 97, 32, 85, 32, 124, 32, 98, 10, 85, 58, 32, 85, 32, 97, 10]⟩, .string ⟨#[83, 58, 32, 97, 32, 84, 32, 124, 32, 98, 10, 84, 58, 32, 98, 32, 83, 32, 124, 32, 97, 10, 86, 58, 32, 97, 32, 97, 10]⟩, .string ⟨#[83, 58, 10, 84, 58, 32, 97, 10]⟩, .string ⟨#[83, 58, 32, 65, 32, 98, 10, 65, 58, 32, 97, 32, 124, 32, 66, 10, 66, 58, 10]⟩, .string ⟨#[83, 58, 32, 108, 32, 83, 32, 114, 32, 83, 32, 124, 10]⟩, .string ⟨#[83, 58, 32, 97, 32, 65, 10, 65, 58, 32, 98, 32, 66, 32, 124, 32, 99, 10, 66, 58, 32, 97, 32, 65, 32, 124, 32, 100, 32, 83, 10]⟩, .string ⟨#[83, 58, 32, 65, 32, 99, 10, 65, 58, 32, 66, 32, 97, 32, 124, 32, 97, 32, 98, 10, 66, 58, 32, 97, 32, 124, 32, 98, 10]⟩, .string ⟨#[83, 58, 32, 83, 32, 83, 32, 124, 32, 97, 10]⟩, .string ⟨#[83, 58, 32, 97, 32, 83, 32, 124, 32, 83, 32, 98, 32, 124, 32, 97, 10]⟩, .string ⟨#[83, 58, 32, 105, 32, 83, 32, 124, 32, 105, 32, 83, 32, 101, 32, 83, 32, 124, 32, 97, 10]⟩, .string ⟨#[83, 58, 32, 65, 32, 124, 32, 66, 10, 65, 58, 32, 97, 10, 66, 58, 32, 97, 10]⟩, .string ⟨#[69, 58, 32, 69, 32, 112, 32, 69, 32, 124, 32, 69, 32, 109, 32, 69, 32, 124, 32, 105, 10]⟩, .string ⟨#[83, 58, 32, 83, 32, 124, 32, 97, 10]⟩, .string ⟨#[83, 58, 32, 65, 32, 83, 32, 124, 32, 97, 10, 65, 58, 10]⟩, .string ⟨#[83, 58, 32, 65, 32, 66, 32, 99, 10, 65, 58, 32, 97, 32, 124, 10, 66, 58, 32, 97, 32, 124, 10]⟩, .string ⟨#[83, 58, 32, 83, 32, 97, 32, 124, 32, 97, 32, 83, 32, 124, 32, 97, 10]⟩, .string ⟨#[83, 58, 32, 65, 32, 97, 32, 124, 32, 66, 32, 97, 10, 65, 58, 32, 98, 10, 66, 58, 32, 98, 10]⟩] : Array Value).toList = textsL.map (fun x => .string ⟨x.toArray⟩) := rfl
      rw [hA, List.getElem?_map, hx]; rfl)
    have hadd : (⟨w.heap.size, 0, none⟩ : Addr).add k = ⟨w.heap.size, k, none⟩ := by unfold Addr.add; split <;> simp_all
    exact hadd ▸ hn
  have HQ := Lib.hid hq
  have HS := Lib.hid hS
  have HL := Lib.hid (heap_lt (heap_alloc_new w (.cells #[.string ⟨#[83, 58, 32, 97, 10]⟩, .string ⟨#[83, 58, 32, 97, 32, 83, 32, 124, 32, 98, 10]⟩, .string ⟨#[83, 58, 32, 83, 32, 97, 32, 124, 32, 98, 10]⟩, .string ⟨#[83, 58, 32, 97, 32, 83, 32, 98, 32, 124, 10]⟩, .string ⟨#[83, 58, 32, 65, 32, 65, 10, 65, 58, 32, 97, 32, 65, 32, 124, 32, 98, 10]⟩, .string ⟨#[69, 58, 32, 69, 32, 112, 32, 84, 32, 124, 32, 84, 10, 84, 58, 32, 84, 32, 109, 32, 70, 32, 124, 32, 70, 10, 70, 58, 32, 105, 32, 124, 32, 108, 32, 69, 32, 114, 10]⟩, .string ⟨#[83, 58, 32, 65, 32, 97, 32, 124, 32, 98, 32, 65, 32, 99, 32, 124, 32, 100, 32, 99, 32, 124, 32, 98, 32, 100, 32, 97, 10, 65, 58, 32, 100, 10]⟩, .string ⟨#[83, 58, 32, 97, 32, 65, 32, 100, 32, 124, 32, 98, 32, 66, 32, 100, 32, 124, 32, 97, 32, 66, 32, 101, 32, 124, 32, 98, 32, 65, 32, 101, 10, 65, 58, 32, 99, 10, 66, 58, 32, 99, 10]⟩, .string ⟨#[83, 58, 32, 65, 32, 66, 10, 65, 58, 32, 97, 32, 65, 32, 124, 10, 66, 58, 32, 98, 32, 66, 32, 124, 10]⟩, .string ⟨#[83, 58, 32, 76, 32, 113, 32, 82, 32, 124, 32, 82, 10, 76, 58, 32, 109, 32, 82, 32, 124, 32, 105, 10, 82, 58, 32, 76, 10]⟩, .string ⟨#[83, 58, 32, 97, 32, 85, 32, 124, 32, 98, 10, 85, 58, 32, 85, 32, 97, 10]⟩, .string ⟨#[83, 58, 32, 97, 32, 84, 32, 124, 32, 98, 10, 84, 58, 32, 98, 32, 83, 32, 124, 32, 97, 10, 86, 58, 32, 97, 32, 97, 10]⟩, .string ⟨#[83, 58, 10, 84, 58, 32, 97, 10]⟩, .string ⟨#[83, 58, 32, 65, 32, 98, 10, 65, 58, 32, 97, 32, 124, 32, 66, 10, 66, 58, 10]⟩, .string ⟨#[83, 58, 32, 108, 32, 83, 32, 114, 32, 83, 32, 124, 10]⟩, .string ⟨#[83, 58, 32, 97, 32, 65, 10, 65, 58, 32, 98, 32, 66, 32, 124, 32, 99, 10, 66, 58, 32, 97, 32, 65, 32, 124, 32, 100, 32, 83, 10]⟩, .string ⟨#[83, 58, 32, 65, 32, 99, 10, 65, 58, 32, 66, 32, 97, 32, 124, 32, 97, 32, 98, 10, 66, 58, 32, 97, 32, 124, 32, 98, 10]⟩, .string ⟨#[83, 58, 32, 83, 32, 83, 32, 124, 32, 97, 10]⟩, .string ⟨#[83, 58, 32, 97, 32, 83, 32, 124, 32, 83, 32, 98, 32, 124, 32, 97, 10]⟩, .string ⟨#[83, 58, 32, 105, 32, 83, 32, 124, 32, 105, 32, 83, 32, 101, 32, 83, 32, 124, 32, 97, 10]⟩, .string ⟨#[83, 58, 32, 65, 32, 124, 32, 66, 10, 65, 58, 32, 97, 10, 66, 58, 32, 97, 10]⟩, .string ⟨#[69, 58, 32, 69, 32, 112, 32, 69, 32, 124, 32, 69, 32, 109, 32, 69, 32, 124, 32, 105, 10]⟩, .string ⟨#[83, 58, 32, 83, 32, 124, 32, 97, 10]⟩, .string ⟨#[83, 58, 32, 65, 32, 83, 32, 124, 32, 97, 10, 65, 58, 10]⟩, .string ⟨#[83, 58, 32, 65, 32, 66, 32, 99, 10, 65, 58, 32, 97, 32, 124, 10, 66, 58, 32, 97, 32, 124, 10]⟩, .string ⟨#[83, 58, 32, 83, 32, 97, 32, 124, 32, 97, 32, 83, 32, 124, 32, 97, 10]⟩, .string ⟨#[83, 58, 32, 65, 32, 97, 32, 124, 32, 66, 32, 97, 10, 65, 58, 32, 98, 10, 66, 58, 32, 98, 10]⟩] 9)))
  clear hq hS
  go_enter Tryd.func70, Tryd.ntmps70
  go_wp2
  go_ret
  exact ⟨rfl, HS.out, HL.out, HQ.out⟩

/-- A grammar that was read of one of the texts: its rows its own. -/
def ReadOf (w w' : World) (e : Ending) (t : List UInt8) : Prop :=
  ∃ (ts ns : List (List UInt8)) (ls : List Lay) (at_ an ap : Option Addr) (ct cn cp : Nat), e = .returned (.agg #[.slice at_ ts.length ct, .slice an ns.length cn, .slice ap ls.length cp]) ∧ Rws w.heap.size w' ts ns ls at_ an ap ct cn cp ∧ parse t = .ok ⟨ts, ns, ls.map Lay.plain⟩

set_option maxRecDepth 100000 in
set_option maxHeartbeats 4000000 in
theorem good_any (n : Int) (w : World) : Calls Tryd.prog 33 #[.int .i64 n] w fun e w' => Below w.heap.size w w' ∧ ReadOf w w' e (textsL.getD (n % 17).toNat []) := by
  obtain ⟨d, hd, hdl⟩ : ∃ d : Nat, n % 17 = d ∧ d < 17 := ⟨(n % 17).toNat, by omega, by omega⟩
  obtain ⟨x, hx⟩ : ∃ x, textsL[d]? = some x := ⟨_, List.getElem?_eq_getElem (by simp only [textsL, List.length_cons, List.length_nil]; omega)⟩
  have hxm := List.mem_of_getElem? hx
  have hxl := texts_len x hxm
  obtain ⟨g, hg⟩ := okT_ok (texts_ok x hxm)
  have hte : textsL.getD (n % 17).toNat [] = x := by rw [hd, Int.toNat_natCast, List.getD_eq_getElem?_getD, hx]; rfl
  rw [hte]
  have HW := Lib.hid fun W => (within_any n 17 (by omega) (by omega) W).mono fun e w' ⟨he, hw⟩ => (⟨he.trans (by rw [hd]), hw⟩ : e = Ending.returned (.int .i64 d) ∧ w' = W)
  have HT := Lib.hid fun W => texts_any W
  have HP := Lib.hid fun W => (rparse_own ⟨x.toArray⟩ W (by show x.length ≤ _; omega)).mono fun e w' ⟨hb, he⟩ => (⟨hb, by unfold ParseEndR at he; rw [show (⟨x.toArray⟩ : ByteArray).data.toList = x from rfl, hg] at he; exact he⟩ : Below W.heap.size W w' ∧ ∃ (F : Nat) (ts ns : List (List UInt8)) (ls : List Lay) (at_ an ap : Option Addr) (ct cn cp : Nat), e = Ending.returned (.tuple #[.agg #[.slice at_ ts.length ct, .slice an ns.length cn, .slice ap ls.length cp], .int .i64 0, .int .i64 0, .int .i64 0]) ∧ W.heap.size ≤ F ∧ Rws F w' ts ns ls at_ an ap ct cn cp ∧ (⟨ts, ns, ls.map Lay.plain⟩ : Gr) = g)
  have hb0 := box_below w (.cells #[.slice none 0 0, .slice none 0 0, .slice none 0 0] 29)
  have q0 := heap_alloc_new w (.cells #[.slice none 0 0, .slice none 0 0, .slice none 0 0] 29)
  have l0 := heap_lt q0
  have HB0 := Lib.hid hb0
  have HQ0 := Lib.hid q0
  have HG := Lib.hid hg
  have HX := Lib.hid hx
  have e1 : (d : Int) < 27 := by omega
  clear hd hx hxm hxl hg hte hb0 q0
  go_enter Tryd.func33, Tryd.ntmps33
  go_upto_region 1 with fail
  generalize hS0 : w.alloc (.cells #[.slice none 0 0, .slice none 0 0, .slice none 0 0] 29) = S0 at *
  clear hS0
  go_upto_region 2 with (first
    | (go_at_call 70; refine (HT.out _).mono ?_; rintro e w2 ⟨rfl, hb2, hl2, hc2⟩; have hcx := hc2 _ _ HX.out; clear hc2)
    | (go_at_call 12; refine (HW.out _).mono ?_; rintro e w3 ⟨rfl, hw3⟩; rw [hw3]; clear hw3)
    | (go_at_call 25; refine (HP.out _).mono ?_; rintro e w4 ⟨hb4, F, ts, ns, ls, at_, an, ap, ct, cn, cp, rfl, hF, hr, hgr⟩))
  have hb5 := box_below w4 (.cells #[.slice at_ ts.length ct, .slice an ns.length cn, .slice ap ls.length cp] 29)
  have q5 := heap_alloc_new w4 (.cells #[.slice at_ ts.length ct, .slice an ns.length cn, .slice ap ls.length cp] 29)
  have hbw := (hb2.trans (hb4.mono hb2.size)).trans (hb5.mono (Nat.le_trans hb2.size hb4.size))
  have q0 := (hbw.block w.heap.size l0).trans HQ0.out
  have hr5 := hr.below hb5
  obtain ⟨v0, z0⟩ := blk_cell (i := 0) (u := .slice none 0 0) q0 rfl
  obtain ⟨v1, z1⟩ := blk_cell (i := 1) (u := .slice none 0 0) q0 rfl
  obtain ⟨v2, z2⟩ := blk_cell (i := 2) (u := .slice none 0 0) q0 rfl
  have k0 := (blk_cell (i := 0) (u := .slice at_ ts.length ct) q5 rfl).1
  have k1 := (blk_cell (i := 1) (u := .slice an ns.length cn) q5 rfl).1
  have k2 := (blk_cell (i := 2) (u := .slice ap ls.length cp) q5 rfl).1
  have lR := heap_lt q0
  have l5 := heap_lt q5
  have hlF : w.heap.size < F := by have := hb2.size; omega
  have HQR := Lib.hid q0
  have HBW := Lib.hid (HB0.out.trans (hbw.mono HB0.out.size))
  have HR5 := Lib.hid hr5
  have HGR := Lib.hid hgr
  clear q0 q5 hb5 hbw hr5 hb4 hb2 hr hF HB0 HQ0 hgr HT HP HW hcx hl2 l0
  generalize w4.alloc (.cells #[.slice at_ ts.length ct, .slice an ns.length cn, .slice ap ls.length cp] 29) = W5 at *
  generalize w4.heap.size = B5 at *
  go_wp2
  (try simp only [Exit.inBlock, Exit.then])
  refine bodyPost_ret (v := .agg #[.slice at_ ts.length ct, .slice an ns.length cn, .slice ap ls.length cp]) ?_ rfl ⟨?_, ts, ns, ls, at_, an, ap, ct, cn, cp, rfl, ?_, ?_⟩
  · rw [results_cell1 (p := 2) (ty := 29) rfl]
    show ((asAddr (.pointer (some ⟨w.heap.size, 0, none⟩))).run _ _).andThen _ = _
    show (loadVar 29 ⟨w.heap.size, 0, none⟩).run _ _ = _
    exact run_loadVar_row _ w.heap.size 29 29 _ (0, 0) _ (store3 HQR.out _ _ _) Tryd.underlying29 rfl (by kernel_rfl)
  · exact store3_below HBW.out (Nat.le_refl _) _ _ _
  · exact (HR5.out.keep fun k h1 h2 => store3_far _ _ _ k (by omega)).base (by omega)
  · rw [HGR.out]; exact HG.out

set_option maxRecDepth 100000 in
set_option maxHeartbeats 4000000 in
theorem bad_any (n : Int) (w : World) : Calls Tryd.prog 42 #[.int .i64 n] w fun e w' => Below w.heap.size w w' ∧ ReadOf w w' e (textsL.getD (17 + (n % 10).toNat) []) := by
  obtain ⟨d, hd, hdl⟩ : ∃ d : Nat, n % 10 = d ∧ d < 10 := ⟨(n % 10).toNat, by omega, by omega⟩
  obtain ⟨x, hx⟩ : ∃ x, textsL[17 + d]? = some x := ⟨_, List.getElem?_eq_getElem (by simp only [textsL, List.length_cons, List.length_nil]; omega)⟩
  have hxm := List.mem_of_getElem? hx
  have hxl := texts_len x hxm
  obtain ⟨g, hg⟩ := okT_ok (texts_ok x hxm)
  have hte : textsL.getD (17 + (n % 10).toNat) [] = x := by rw [hd, Int.toNat_natCast, List.getD_eq_getElem?_getD, hx]; rfl
  rw [hte]
  have HW := Lib.hid fun W => (within_any n 10 (by omega) (by omega) W).mono fun e w' ⟨he, hw⟩ => (⟨he.trans (by rw [hd]), hw⟩ : e = Ending.returned (.int .i64 d) ∧ w' = W)
  have HT := Lib.hid fun W => texts_any W
  have HP := Lib.hid fun W => (rparse_own ⟨x.toArray⟩ W (by show x.length ≤ _; omega)).mono fun e w' ⟨hb, he⟩ => (⟨hb, by unfold ParseEndR at he; rw [show (⟨x.toArray⟩ : ByteArray).data.toList = x from rfl, hg] at he; exact he⟩ : Below W.heap.size W w' ∧ ∃ (F : Nat) (ts ns : List (List UInt8)) (ls : List Lay) (at_ an ap : Option Addr) (ct cn cp : Nat), e = Ending.returned (.tuple #[.agg #[.slice at_ ts.length ct, .slice an ns.length cn, .slice ap ls.length cp], .int .i64 0, .int .i64 0, .int .i64 0]) ∧ W.heap.size ≤ F ∧ Rws F w' ts ns ls at_ an ap ct cn cp ∧ (⟨ts, ns, ls.map Lay.plain⟩ : Gr) = g)
  have hb0 := box_below w (.cells #[.slice none 0 0, .slice none 0 0, .slice none 0 0] 29)
  have q0 := heap_alloc_new w (.cells #[.slice none 0 0, .slice none 0 0, .slice none 0 0] 29)
  have l0 := heap_lt q0
  have HB0 := Lib.hid hb0
  have HQ0 := Lib.hid q0
  have HG := Lib.hid hg
  have HX := Lib.hid hx
  have e1 : (d : Int) < 10 := by omega
  clear hd hx hxm hxl hg hte hb0 q0
  go_enter Tryd.func42, Tryd.ntmps42
  go_upto_region 1 with fail
  generalize hS0 : w.alloc (.cells #[.slice none 0 0, .slice none 0 0, .slice none 0 0] 29) = S0 at *
  clear hS0
  go_upto_region 3 with (first
    | (go_at_call 70; refine (HT.out _).mono ?_; rintro e w2 ⟨rfl, hb2, hl2, hc2⟩; have hcx := hc2 _ _ HX.out; clear hc2)
    | (go_at_call 12; refine (HW.out _).mono ?_; rintro e w3 ⟨rfl, hw3⟩; rw [hw3]; clear hw3)
    | (go_at_call 25; refine (HP.out _).mono ?_; rintro e w4 ⟨hb4, F, ts, ns, ls, at_, an, ap, ct, cn, cp, rfl, hF, hr, hgr⟩))
  have hb5 := box_below w4 (.cells #[.slice at_ ts.length ct, .slice an ns.length cn, .slice ap ls.length cp] 29)
  have q5 := heap_alloc_new w4 (.cells #[.slice at_ ts.length ct, .slice an ns.length cn, .slice ap ls.length cp] 29)
  have hbw := (hb2.trans (hb4.mono hb2.size)).trans (hb5.mono (Nat.le_trans hb2.size hb4.size))
  have q0 := (hbw.block w.heap.size l0).trans HQ0.out
  have hr5 := hr.below hb5
  obtain ⟨v0, z0⟩ := blk_cell (i := 0) (u := .slice none 0 0) q0 rfl
  obtain ⟨v1, z1⟩ := blk_cell (i := 1) (u := .slice none 0 0) q0 rfl
  obtain ⟨v2, z2⟩ := blk_cell (i := 2) (u := .slice none 0 0) q0 rfl
  have k0 := (blk_cell (i := 0) (u := .slice at_ ts.length ct) q5 rfl).1
  have k1 := (blk_cell (i := 1) (u := .slice an ns.length cn) q5 rfl).1
  have k2 := (blk_cell (i := 2) (u := .slice ap ls.length cp) q5 rfl).1
  have lR := heap_lt q0
  have l5 := heap_lt q5
  have hlF : w.heap.size < F := by have := hb2.size; omega
  have HQR := Lib.hid q0
  have HBW := Lib.hid (HB0.out.trans (hbw.mono HB0.out.size))
  have HR5 := Lib.hid hr5
  have HGR := Lib.hid hgr
  clear q0 q5 hb5 hbw hr5 hb4 hb2 hr hF HB0 HQ0 hgr HT HP HW hcx hl2 l0
  generalize w4.alloc (.cells #[.slice at_ ts.length ct, .slice an ns.length cn, .slice ap ls.length cp] 29) = W5 at *
  generalize w4.heap.size = B5 at *
  go_wp2
  (try simp only [Exit.inBlock, Exit.then])
  refine bodyPost_ret (v := .agg #[.slice at_ ts.length ct, .slice an ns.length cn, .slice ap ls.length cp]) ?_ rfl ⟨?_, ts, ns, ls, at_, an, ap, ct, cn, cp, rfl, ?_, ?_⟩
  · rw [results_cell1 (p := 2) (ty := 29) rfl]
    show ((asAddr (.pointer (some ⟨w.heap.size, 0, none⟩))).run _ _).andThen _ = _
    show (loadVar 29 ⟨w.heap.size, 0, none⟩).run _ _ = _
    exact run_loadVar_row _ w.heap.size 29 29 _ (0, 0) _ (store3 HQR.out _ _ _) Tryd.underlying29 rfl (by kernel_rfl)
  · exact store3_below HBW.out (Nat.le_refl _) _ _ _
  · exact (HR5.out.keep fun k h1 h2 => store3_far _ _ _ k (by omega)).base (by omega)
  · rw [HGR.out]; exact HG.out

end Go.Proofs.YtejjdfmobiegdaaDoor
