/- Entries of the places up to one, and of the next. -/
import Derived.Test.YtlodfipiodlgdaaRd
import Derived.Laws.Tables
namespace Go.Proofs.Ytlodfipiodlgdaa
open Go.RowKit

theorem upto_split {m : List Ky} {k : Nat} {d : Ky} : d ∈ upto m (k + 1) ↔ d ∈ upto m k ∨ d ∈ plc m k := by
  rw [upto_mem, upto_mem, plc_mem]
  constructor
  · rintro ⟨h1, h2⟩
    by_cases h : d.1 % 64 < (k : Int)
    · exact .inl ⟨h1, h⟩
    · exact .inr ⟨h1, by omega⟩
  · rintro (⟨h1, h2⟩ | ⟨h1, h2⟩)
    · exact ⟨h1, by omega⟩
    · exact ⟨h1, by omega⟩
end Go.Proofs.Ytlodfipiodlgdaa
