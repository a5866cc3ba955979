/- A run of the statement's own beside the task that came in. -/
import Derived.Test.YtbofpbochgoafaaAw
import Derived.Test.YtbofpbochgoafaaSl
import Derived.Test.YtbofpbochgoafaaSx
import Derived.Test.YtbofpbochgoafaaOb
import Derived.Lib.QuietBelow
namespace Go.Proofs.Ytbofpbochgoafaa
open Go.RowKit

/-- The task in the box that the call made first; a run at block g, behind it. -/
structure St (w : World) (t : Tk) (g : Nat) (d p l : Int) (s : Bool) (f : Int) (W : World) : Prop where
  box : Box w t W
  gt : w.heap.size < g
  lies : Lies W g 28 (boxR t d p l s f)
section
variable {w W V W' : World} {t : Tk} {d p l f d' p' l' f' : Int} {s s' : Bool} {g x : Nat}
theorem St.tells (h : St w t g d p l s f W) (hb : Below W.heap.size W W') : St w t g d p l s f W' := ⟨h.box.tells hb, h.gt, h.lies.below hb h.lies.lt⟩
theorem St.wrote (h : St w t g d p l s f W) (hw : Wrote g W W') (hl : Lies W' g 28 (boxR t d' p' l' s' f')) : St w t g d' p' l' s' f' W' :=
  ⟨⟨hw.below _ _ (by have := h.gt; omega) h.box.below, hw.others _ _ _ (by have := h.gt; omega) h.box.lies⟩, h.gt, hl⟩
theorem St.begun (hB : Box w t W) (hg : W.heap.size ≤ g) (hb : Below W.heap.size W V) (hw : Wrote g V W') (hl : Lies W' g 28 (boxR t d p l s f)) : St w t g d p l s f W' :=
  ⟨hB.tells (hw.below _ _ hg hb), Nat.lt_of_lt_of_le hB.lt hg, hl⟩
theorem St.aside (h : St w t g d p l s f W) (hx : W.heap.size ≤ x) (hb : Below W.heap.size W V) (hw : Wrote x V W') : St w t g d p l s f W' := h.tells (hw.below _ _ hx hb)
theorem St.fails (h : St w t g d p l s f W) : W.cell? ⟨g, 15, none⟩ = some (.int .i64 f) := (runs_cells h.lies).2.2.2.2.2.2.2.2.2.2.2.2.2.2.2
theorem St.below (h : St w t g d p l s f W) : Below w.heap.size w W := h.box.below
end
end Go.Proofs.Ytbofpbochgoafaa
