/- What is asked of one task by itself. -/
import Derived.Test.YtklnokhabomnfaaSp
namespace Go.Proofs.Ytklnokhabomnfaa
open Go.RowKit

def cellsK (t : Tk) : List Value := [.string t.name, .int .i64 t.T, .int .i64 t.D, .int .i64 t.C, .int .i64 t.A, .int .i64 t.Seg, .int .i64 t.Cost, .int .i64 t.M, .int .i64 t.K, .int .i64 t.Mode, .int .i64 t.Prio]
/-- A task as a value. -/
def aggK (t : Tk) : Value := .agg #[.string t.name, .int .i64 t.T, .int .i64 t.D, .int .i64 t.C, .int .i64 t.A, .int .i64 t.Seg, .int .i64 t.Cost, .int .i64 t.M, .int .i64 t.K, .int .i64 t.Mode, .int .i64 t.Prio]
/-- It answers b; new memory was made, nothing else. -/
def Tells (b : Bool) (w : World) (e : Ending) (w' : World) : Prop := e = .returned (.bool b) ∧ Below w.heap.size w w'
theorem tells {b c : Bool} {w w' : World} (h : b = c) (hb : Below w.heap.size w w') : Tells b w (.returned (.bool c)) w' := ⟨by rw [h], hb⟩
theorem below_new (w : World) (o : Obj) : Below w.heap.size w (w.alloc o) := (Below.refl _ _).alloc (Nat.le_refl _) o

def withinB (n lo hi : Int) : Bool := decide (lo ≤ n) && decide (n ≤ hi)
end Go.Proofs.Ytklnokhabomnfaa
