/- A byte that was handed in is one. -/
import Derived.Test.YtkldpbehjbecnaaMem
namespace Go.Proofs.Ytkldpbehjbecnaa
theorem byte_of {a : Int} (h : (Lit.int .u8 a).wf = true) : 0 ≤ a ∧ a ≤ 255 := by
  have h' : IntKind.u8.min ≤ a ∧ a ≤ IntKind.u8.max := by simpa [Lit.wf] using h
  have e1 : IntKind.u8.min = 0 := rfl
  have e2 : IntKind.u8.max = 255 := rfl
  omega
end Go.Proofs.Ytkldpbehjbecnaa
