/- Posts of two numbers; a task's cells. -/
import Derived.Test.YtklnokhabomnfaaMk
import Derived.StillTailTactics
import Derived.Deep.RegionHeld3
namespace Go.Proofs.Ytklnokhabomnfaa
open Go.RowKit

/-- Two numbers; new memory was made, nothing else. -/
def Whys (p : Int × Int) (w : World) (e : Ending) (w' : World) : Prop := e = .returned (.tuple #[.int .i64 p.1, .int .i64 p.2]) ∧ Below w.heap.size w w'
theorem whys {p : Int × Int} {x y : Int} {w w' : World} (h : p = (x, y)) (hb : Below w.heap.size w w') : Whys p w (.returned (.tuple #[.int .i64 x, .int .i64 y])) w' := ⟨by rw [h], hb⟩
def boxK (t : Tk) : Array Value := #[.string t.name, .int .i64 t.T, .int .i64 t.D, .int .i64 t.C, .int .i64 t.A, .int .i64 t.Seg, .int .i64 t.Cost, .int .i64 t.M, .int .i64 t.K, .int .i64 t.Mode, .int .i64 t.Prio]
end Go.Proofs.Ytklnokhabomnfaa
