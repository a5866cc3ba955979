/- A number of two bytes. -/
import Derived.Test.YteolepmopajamaaMem
import Derived.ProofKit
import Derived.OpenShut
namespace Go.Proofs.Yteolepmopajamaa
theorem word_of {n : Int} (h : (Lit.int .u16 n).wf = true) : 0 ≤ n ∧ n ≤ 65535 := by
  have h' : IntKind.u16.min ≤ n ∧ n ≤ IntKind.u16.max := by simpa [Lit.wf] using h
  have e1 : IntKind.u16.min = 0 := rfl
  have e2 : IntKind.u16.max = 65535 := rfl
  omega
end Go.Proofs.Yteolepmopajamaa
