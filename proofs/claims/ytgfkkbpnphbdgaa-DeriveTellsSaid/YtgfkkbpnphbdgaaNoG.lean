/- What is given for a grammar that may not be. -/
import Derived.Test.YtgfkkbpnphbdgaaPlayF
import Derived.Test.YtgfkkbpnphbdgaaWordL
import Derived.Test.YtgfkkbpnphbdgaaFirstN
set_option linter.unusedVariables false
namespace Go.Proofs.Ytgfkkbpnphbdgaa
open Go.RowKit
open Doc

theorem check_mid (v : Value) (g : Gr) (w : World) (hg : GramAt w v g) (hm : MidG g) :
    Calls Try.prog 50 #[v] w fun e w' => e = .returned (.int .i64 (chkI g)) ∧ Below w.heap.size w w' :=
  chk_any v g w hg ⟨by have := hm.t.1; omega, by have := hm.n.1; omega, by have := hm.p.1; omega, fun p hp => by have := (hm.p.2 p hp).2.1; omega⟩ (fun p hp => ⟨(hm.p.2 p hp).1, (hm.p.2 p hp).2.2⟩) (fun x hx => by have := hm.t.2 x hx; unfold maxLen; omega) (fun x hx => by have := hm.n.2 x hx; unfold maxLen; omega)
theorem check_not (v : Value) (g : Gr) (w : World) (hg : GramAt w v g) (hm : MidG g) (hc : ¬ CheckG g) :
    Calls Try.prog 50 #[v] w fun e w' => e = .returned (.int .i64 1) ∧ Below w.heap.size w w' :=
  (check_mid v g w hg hm).mono fun e w' ⟨he, hb⟩ => ⟨he.trans (by rw [show chkI g = 1 from if_neg fun h => hc ((chk_iff g).1 h)]), hb⟩

end Go.Proofs.Ytgfkkbpnphbdgaa
