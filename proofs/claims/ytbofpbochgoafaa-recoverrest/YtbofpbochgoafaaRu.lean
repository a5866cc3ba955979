/- A run as it lies in a block: sixteen cells. -/
import Derived.Test.YtbofpbochgoafaaBr
namespace Go.Proofs.Ytbofpbochgoafaa
open Go.RowKit

/-- A run as a value. -/
def aggR (t : Tk) (d p l : Int) (s : Bool) (f : Int) : Value := .agg #[.string t.name, .int .i64 t.T, .int .i64 t.D, .int .i64 t.C, .int .i64 t.A, .int .i64 t.Seg, .int .i64 t.Cost, .int .i64 t.M, .int .i64 t.K, .int .i64 t.Mode, .int .i64 t.Prio,
  .int .i64 d, .int .i64 p, .int .i64 l, .bool s, .int .i64 f]
/-- Its cells. -/
def boxR (t : Tk) (d p l : Int) (s : Bool) (f : Int) : Array Value := #[.string t.name, .int .i64 t.T, .int .i64 t.D, .int .i64 t.C, .int .i64 t.A, .int .i64 t.Seg, .int .i64 t.Cost, .int .i64 t.M, .int .i64 t.K, .int .i64 t.Mode, .int .i64 t.Prio,
  .int .i64 d, .int .i64 p, .int .i64 l, .bool s, .int .i64 f]
/-- A run lies in the block that the call made first. -/
structure RBox (w : World) (t : Tk) (d p l : Int) (s : Bool) (f : Int) (W : World) : Prop where
  below : Below w.heap.size w W
  lies : Lies W w.heap.size 28 (boxR t d p l s f)
section
variable {w W W' : World} {t : Tk} {d p l f g : Int} {s : Bool} {b : Nat}
theorem runs_cells (h : Lies W b 28 (boxR t d p l s f)) : W.cell? ⟨b, 0, none⟩ = some (.string t.name) ∧ W.cell? ⟨b, 1, none⟩ = some (.int .i64 t.T) ∧ W.cell? ⟨b, 2, none⟩ = some (.int .i64 t.D) ∧ W.cell? ⟨b, 3, none⟩ = some (.int .i64 t.C)
    ∧ W.cell? ⟨b, 4, none⟩ = some (.int .i64 t.A) ∧ W.cell? ⟨b, 5, none⟩ = some (.int .i64 t.Seg) ∧ W.cell? ⟨b, 6, none⟩ = some (.int .i64 t.Cost) ∧ W.cell? ⟨b, 7, none⟩ = some (.int .i64 t.M)
    ∧ W.cell? ⟨b, 8, none⟩ = some (.int .i64 t.K) ∧ W.cell? ⟨b, 9, none⟩ = some (.int .i64 t.Mode) ∧ W.cell? ⟨b, 10, none⟩ = some (.int .i64 t.Prio)
    ∧ W.cell? ⟨b, 11, none⟩ = some (.int .i64 d) ∧ W.cell? ⟨b, 12, none⟩ = some (.int .i64 p) ∧ W.cell? ⟨b, 13, none⟩ = some (.int .i64 l) ∧ W.cell? ⟨b, 14, none⟩ = some (.bool s) ∧ W.cell? ⟨b, 15, none⟩ = some (.int .i64 f) :=
  ⟨h.cell 0, h.cell 1, h.cell 2, h.cell 3, h.cell 4, h.cell 5, h.cell 6, h.cell 7, h.cell 8, h.cell 9, h.cell 10, h.cell 11, h.cell 12, h.cell 13, h.cell 14, h.cell 15⟩
theorem RBox.made (w : World) (t : Tk) (d p l : Int) (s : Bool) (f : Int) : RBox w t d p l s f (w.alloc (.cells (boxR t d p l s f) 28)) := ⟨below_new _ _, Lies.made _ _ _⟩
theorem RBox.tells (h : RBox w t d p l s f W) (hb : Below W.heap.size W W') : RBox w t d p l s f W' := ⟨h.below.trans (hb.mono h.below.size), h.lies.below hb h.lies.lt⟩
theorem RBox.drewN (h : RBox w t d p l s f W) (k : Nat) : RBox w t d p l s f (W.drewN k) := ⟨below_drewN h.below k, h.lies.drewN k⟩
theorem RBox.lt (h : RBox w t d p l s f W) : w.heap.size < W.heap.size := h.lies.lt
theorem lies_part (h : Lies W b 28 (boxR t d p l s f)) (g : Int) : Lies (W.setCell ⟨b, 12, none⟩ (.int .i64 g)) b 28 (boxR t d g l s f) := h.here 12 _
theorem lies_left (h : Lies W b 28 (boxR t d p l s f)) (g : Int) : Lies (W.setCell ⟨b, 13, none⟩ (.int .i64 g)) b 28 (boxR t d p g s f) := h.here 13 _
theorem lies_struck (h : Lies W b 28 (boxR t d p l s f)) (g : Bool) : Lies (W.setCell ⟨b, 14, none⟩ (.bool g)) b 28 (boxR t d p l g f) := h.here 14 _
theorem lies_fails (h : Lies W b 28 (boxR t d p l s f)) (g : Int) : Lies (W.setCell ⟨b, 15, none⟩ (.int .i64 g)) b 28 (boxR t d p l s g) := h.here 15 _
end
/-- What of the demand lies in a part. -/
def pieceV (t : Tk) (d p : Int) : Int := if t.Mode = 1 then (if d - p * t.Seg < t.Seg then d - p * t.Seg else t.Seg) else d
end Go.Proofs.Ytbofpbochgoafaa
