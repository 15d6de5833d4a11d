/- StatesMemory, whatever the good text. -/
import Derived.Test.YtejjdfmobiegdaaDoorStMem
import Derived.Test.YtejjdfmobiegdaaDoorStG
set_option linter.unusedVariables false
namespace Go.Proofs.YtejjdfmobiegdaaDoor
open Go.RowKit
open Doc

theorem statesMemory_walk (n at_ : Int) (w : World) (HT : Sl.Tab w) :
    Calls Tryd.prog 10 #[.int .i64 n, .int .i64 at_] w fun e w' => e = .returned (.bool true) ∧ Below w.heap.size w w' := by
  have hd : (n % 17).toNat < 17 := by omega
  have hb := goodM_all _ hd
  cases hp : parse (textsL.getD (n % 17).toNat []) with
  | bad l c x =>
    unfold goodMB at hb
    rw [hp] at hb
    cases hb
  | ok g =>
    obtain ⟨hc, hf, hK, all, hm⟩ := goodM_is hb hp
    exact statesMemory_on n at_ w HT hp hc hf (by rw [← kOf_eq hK]; exact hm)
end Go.Proofs.YtejjdfmobiegdaaDoor
