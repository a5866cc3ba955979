/- A field of a token that no cell holds. -/
import Derived.Test.YteolepmopajamaaMem
namespace Go.Proofs.Yteolepmopajamaa
theorem field0 (a b c d e : Value) (w : World) : (Instr.field 45 (.agg #[a, b, c, d, e]) 0).run Try.prog w = .ok a w := by
  simp [Instr.field, Try.underlying45, underlying]
  rfl
theorem field1 (a b c d e : Value) (w : World) : (Instr.field 45 (.agg #[a, b, c, d, e]) 1).run Try.prog w = .ok b w := by
  simp [Instr.field, Try.underlying45, underlying]
  rfl
theorem field2 (a b c d e : Value) (w : World) : (Instr.field 45 (.agg #[a, b, c, d, e]) 2).run Try.prog w = .ok c w := by
  simp [Instr.field, Try.underlying45, underlying]
  rfl
end Go.Proofs.Yteolepmopajamaa
