/- symbol, in the plain functions' words. -/
import Derived.Test.YtdnlbmdmaiacaaaSymbol
import Derived.Test.YtdnlbmdmaiacaaaProdF
namespace Go.Proofs.Ytdnlbmdmaiacaaa
open Go.RowKit
open Doc

section
variable {b : Nat} {w : World} {ts ns : List (List UInt8)} {ls : List Lay} {at_ an ap : Option Addr} {ct cn cp : Nat}

/-- The builder, its rows wherever they are: what stays true besides. -/
structure Names (ts ns : List (List UInt8)) : Prop where
  tk : ∀ x ∈ ts, kindOf x = 2
  nk : ∀ x ∈ ns, kindOf x = 1
  tl : ts.length ≤ 8
  nl : ns.length ≤ 8

theorem symbol_bad (t : Tok) (e : Nat) (h : Bld b w ts ns ls at_ an ap ct cn cp) (hN : Names ts ns) (ht : isName t) (hf : FairT t) (hs : symF ns ts t = .inr e) :
    Calls Try.prog 121 #[.pointer (some ⟨b, 0, none⟩), tokV t] w fun x w' => x = .panicked [{ v := faultV t.line t.col e, recovered := false }] ∧ Below w.heap.size w w' := by
  have hts := hN.tl
  have hns := hN.nl
  have hx := find_sym ns ts (ls.map Lay.plain) t ht hf hN.tk hN.nk
  rw [hs] at hx
  obtain ⟨hx, ⟨hk, rfl⟩ | ⟨hk, h8, rfl⟩⟩ := hx
  · exact symbol_none t h (by omega) (by omega) hk hx
  · exact symbol_limit t h (by omega) (by omega) hk (by omega) hx

theorem symbol_ok (t : Tok) (ts' : List (List UInt8)) (s : Int) (h : Bld b w ts ns ls at_ an ap ct cn cp) (hN : Names ts ns) (ht : isName t) (hf : FairT t) (hs : symF ns ts t = .inl (ts', s)) :
    Calls Try.prog 121 #[.pointer (some ⟨b, 0, none⟩), tokV t] w fun x w' => x = .returned (.int .i64 s) ∧ Below b w w' ∧ Stays [9, 122] w w' ∧ Names ts' ns ∧ ∃ at' ct', Bld b w' ts' ns ls at' an ap ct' cn cp := by
  have hts := hN.tl
  have hns := hN.nl
  have hx := find_sym ns ts (ls.map Lay.plain) t ht hf hN.tk hN.nk
  have hN' := sym_terms hs ht hf hN.tk hN.tl
  have hN2 : Names ts' ns := ⟨hN'.1, hN.nk, hN'.2, hN.nl⟩
  rw [hs] at hx
  rcases hx with ⟨hx, rfl⟩ | ⟨hx, hk, h8, rfl, rfl⟩
  · refine (symbol_found t s h (by omega) (by omega) hx).mono fun e w' ⟨he, hb⟩ => ?_
    exact ⟨he, hb.mono (Nat.le_of_lt h.lt), Stays.of_below _ hb, hN2, _, _, h.below hb⟩
  · refine (symbol_new t h (by omega) (by omega) hk h8 hx).mono fun e w' ⟨he, hb, hS, at', ct', hB⟩ => ?_
    exact ⟨he, hb, hS, hN2, at', ct', hB⟩
end

end Go.Proofs.Ytdnlbmdmaiacaaa
