/- A field of a token that no cell holds. -/
import Derived.Test.YtbijgmaeechmoaaDoorMem
namespace Go.Proofs.YtbijgmaeechmoaaDoor
set_option maxRecDepth 100000 in
theorem field0 (a b c d e : Value) (w : World) : (Instr.field 61 (.agg #[a, b, c, d, e]) 0).run Tryd.prog w = .ok a w := by
  simp [Instr.field, Tryd.underlying61, underlying]
  rfl
set_option maxRecDepth 100000 in
theorem field1 (a b c d e : Value) (w : World) : (Instr.field 61 (.agg #[a, b, c, d, e]) 1).run Tryd.prog w = .ok b w := by
  simp [Instr.field, Tryd.underlying61, underlying]
  rfl
set_option maxRecDepth 100000 in
theorem field2 (a b c d e : Value) (w : World) : (Instr.field 61 (.agg #[a, b, c, d, e]) 2).run Tryd.prog w = .ok c w := by
  simp [Instr.field, Tryd.underlying61, underlying]
  rfl
end Go.Proofs.YtbijgmaeechmoaaDoor
