/- exegeteplay.Grammar: walked. -/
import Derived.Test.YtflfmcikfiaoiaaPlayF
import Derived.Test.YtflfmcikfiaoiaaPlayH
import Derived.Test.YtflfmcikfiaoiaaRaw
import Derived.Test.YtflfmcikfiaoiaaText
import Derived.Deep.RegionHeld3
import Derived.Deep.Cut
import Derived.Deep.CutBlock
set_option linter.unusedVariables false
namespace Go.Proofs.Ytflfmcikfiaoiaa
open Go.RowKit
open Doc

/-- Rows that were read or made, laid into the block of a grammar. -/
theorem own_of {b B : Nat} {w : World} {ts ns : List (List UInt8)} {ls : List Lay} {at_ an ap : Option Addr} {ct cn cp : Nat} {u0 u1 u2 : Value} (hr : Rws b w ts ns ls at_ an ap ct cn cp) (hc : CheckG ⟨ts, ns, ls.map Lay.plain⟩) (hq : w.heap[B]? = some (.cells #[u0, u1, u2] 28)) (hB : B < b) :
    ∃ bt bn bp : Nat, at_ = some ⟨bt, 0, none⟩ ∧ an = some ⟨bn, 0, none⟩ ∧ ap = some ⟨bp, 0, none⟩ ∧ OwnG b B (((w.setCell ⟨B, 0, none⟩ (.slice at_ ts.length ct)).setCell ⟨B, 1, none⟩ (.slice an ns.length cn)).setCell ⟨B, 2, none⟩ (.slice ap ls.length cp)) bt bn bp ct cn cp ts ns ls := by
  have h3 : 1 ≤ ls.length := by have := hc.p1; simpa using this
  obtain ⟨bt, c1, hv1, _, _⟩ := hr.t.form (by have := hc.t1; exact this)
  obtain ⟨bn, c2, hv2, _, _⟩ := hr.n.form (by have := hc.n1; exact this)
  obtain ⟨bp, c3, hv3, _, _⟩ := hr.p.form (by omega)
  simp only [Value.slice.injEq] at hv1 hv2 hv3
  obtain ⟨rfl, _, rfl⟩ := hv1
  obtain ⟨rfl, _, rfl⟩ := hv2
  obtain ⟨rfl, _, rfl⟩ := hv3
  have hk := hr.keep (w' := ((w.setCell ⟨B, 0, none⟩ (.slice (some ⟨bt, 0, none⟩) ts.length ct)).setCell ⟨B, 1, none⟩ (.slice (some ⟨bn, 0, none⟩) ns.length cn)).setCell ⟨B, 2, none⟩ (.slice (some ⟨bp, 0, none⟩) ls.length cp)) fun k h1 _ => store3_far _ _ _ k (by omega)
  exact ⟨bt, bn, bp, rfl, rfl, rfl, store3 hq _ _ _, hk.t, hk.n, hk.p, hk.r, hr.d _ _ rfl rfl, h3, hc.t1, check_tiny hc⟩

theorem wrap_small (z : Int) (h1 : 0 ≤ z) (h2 : z ≤ 1000000) : IntKind.i64.wrap z = z := by
  have h := wrap_tdiv (z * 16) (by omega) (by omega)
  have e : (z * 16).tdiv 16 = z := by rw [Int.mul_tdiv_cancel _ (by decide)]
  rw [e] at h; exact h

end Go.Proofs.Ytflfmcikfiaoiaa
