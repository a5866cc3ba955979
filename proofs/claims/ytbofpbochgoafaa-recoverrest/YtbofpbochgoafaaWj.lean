/- Runs loaded, stored, laid, in a region that draws its order. -/
import Derived.Test.YtbofpbochgoafaaSt
import Derived.Deep.RegionHeld3
import Derived.Deep.MidRow
namespace Go.Proofs.Ytbofpbochgoafaa
open Go.RowKit

section
variable {ops : Array Oper} {op : Oper} {a : Act} {w : World} {K : Act → World → Prop} {Q : Exit → Act → World → Prop} {E : Prop} {t t' : Tk} {d p l f d' p' l' f' : Int} {s s' : Bool} {g : Nat} {S : World → Prop}
theorem load_yields (hw : Region.wanted op (yielded ops a.tmps) = true) (x : Operand) (ho : op.op = .load 28 x) (hx : a.eval x = .pointer (some ⟨g, 0, none⟩)) (hS : ∀ w, S w → Lies w g 28 (boxR t d p l s f)) :
    YieldsIf Try.prog ops S op (aggR t d p l s f) a :=
  yieldsIf_load_mid hw 28 x ho g 0 hx (cellsR t d p l s f) _ (fun w h => range_run (hS w h)) Try.underlying28 rfl runSize
theorem lay_step (hgd : op.guard = none) (ho : op.op = .alloc 28)
    (h : ∀ g W', w.heap.size ≤ g → Below w.heap.size w W' → Lies W' g 28 (boxR t00 0 0 0 false 0) → K (a.put op.dst (.pointer (some ⟨g, 0, none⟩))) W') :
    if Region.wanted op (yielded ops a.tmps) = true then Oper.wp Try.prog op a w K Q else E := by
  have hw : Region.wanted op (yielded ops a.tmps) = true := by simp [Region.wanted, hgd]
  rw [if_pos hw]
  unfold Oper.wp
  rw [exec_lay ho, Oper.upon_value]
  exact h w.heap.size _ (Nat.le_refl _) (below_new _ _) (Lies.made _ _ _)
theorem write_step (hgd : op.guard = none) (x y : Operand) (ho : op.op = .store 28 x y) (hx : a.eval x = .pointer (some ⟨g, 0, none⟩)) (hy : a.eval y = aggR t d p l s f) (hL : Lies w g 28 (boxR t' d' p' l' s' f'))
    (h : ∀ W', Wrote g w W' → Lies W' g 28 (boxR t d p l s f) → K (a.put op.dst undef) W') :
    if Region.wanted op (yielded ops a.tmps) = true then Oper.wp Try.prog op a w K Q else E := by
  have hw : Region.wanted op (yielded ops a.tmps) = true := by simp [Region.wanted, hgd]
  rw [if_pos hw]
  exact wp_store_mid 28 x y ho g 0 (cellsR t d p l s f).toArray hx hy (run_there hL) runSize (all_oneCell_toArray (one_cellsR t d p l s f)) (h _ (wrote g _ w) (run_put hL))
end
end Go.Proofs.Ytbofpbochgoafaa
