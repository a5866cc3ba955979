/- Runs loaded, stored, laid: each by one law, its world a letter. -/
import Derived.Test.YtbofpbochgoafaaRs
import Derived.Test.YtbofpbochgoafaaRh
import Derived.Test.YtbofpbochgoafaaRf
namespace Go.Proofs.Ytbofpbochgoafaa
open Go.RowKit

/-- Only block g has turned. -/
structure Wrote (g : Nat) (W W' : World) : Prop where
  others : ∀ b ty cs, b ≠ g → Lies W b ty cs → Lies W' b ty cs
  below : ∀ B w0, B ≤ g → Below B w0 W → Below B w0 W'
theorem wrote (g : Nat) (vs : List Value) (W : World) : Wrote g W (W.setCells g 0 vs) := ⟨fun _ _ _ hb hl => lies_other hb vs 0 W hl, fun _ _ hB h => below_setCells hB vs 0 W h⟩
section
variable {ops : Array Oper} {rest : List Oper} {op : Oper} {a : Act} {w : World} {Q : Exit → Act → World → Prop} {t t' : Tk} {d p l f d' p' l' f' : Int} {s s' : Bool} {g : Nat}
theorem range_run (h : Lies w g 28 (boxR t d p l s f)) : w.rangeAt g 0 (cellsR t d p l s f) := fun j v hv => by
  rw [Nat.zero_add, h.cell]
  rw [← hv, ← Array.getElem?_toList]; rfl
theorem load_run (hgd : op.guard = none) (x : Operand) (ho : op.op = .load 28 x) (hx : a.eval x = .pointer (some ⟨g, 0, none⟩)) (hL : Lies w g 28 (boxR t d p l s f))
    (h : wpList Try.prog ops Q rest (a.put op.dst (aggR t d p l s f)) w) : wpList Try.prog ops Q (op :: rest) a w :=
  wpList_load_mid hgd 28 x ho g 0 hx (cellsR t d p l s f) _ (range_run hL) Try.underlying28 rfl runSize h
theorem write_run (hgd : op.guard = none) (x y : Operand) (ho : op.op = .store 28 x y) (hx : a.eval x = .pointer (some ⟨g, 0, none⟩)) (hy : a.eval y = aggR t d p l s f) (hL : Lies w g 28 (boxR t' d' p' l' s' f'))
    (h : ∀ W', Wrote g w W' → Lies W' g 28 (boxR t d p l s f) → wpList Try.prog ops Q rest (a.put op.dst undef) W') : wpList Try.prog ops Q (op :: rest) a w :=
  store_run hgd x y ho g t d p l s f hx hy (run_there hL) (h _ (wrote g _ w) (run_put hL))
theorem exec_lay {op : Oper} {a : Act} {w : World} (ho : op.op = .alloc 28) : (execOp a.eval op).run Try.prog w = .ok (.value (.pointer (some ⟨w.heap.size, 0, none⟩))) (w.alloc (.cells (boxR t00 0 0 0 false 0) 28)) := by
  unfold execOp
  rw [ho]
  simp [Instr.alloc, newVar, newRow, Value.cells, boxR, t00]
/-- A new run is laid. -/
theorem lay_run (hgd : op.guard = none) (ho : op.op = .alloc 28)
    (h : ∀ g W', w.heap.size ≤ g → Below w.heap.size w W' → Lies W' g 28 (boxR t00 0 0 0 false 0) → wpList Try.prog ops Q rest (a.put op.dst (.pointer (some ⟨g, 0, none⟩))) W') : wpList Try.prog ops Q (op :: rest) a w :=
  wpList_plain hgd fun _ hK => by
    unfold Oper.wp
    rw [exec_lay ho, Oper.upon_value]
    exact hK _ _ (h w.heap.size _ (Nat.le_refl _) (below_new _ _) (Lies.made _ _ _))
theorem taskSize : (Try.prog.info? 23).map (·.size) = some 11 := by kernel_rfl
theorem load_task {b : Nat} (hgd : op.guard = none) (x : Operand) (ho : op.op = .load 23 x) (hx : a.eval x = .pointer (some ⟨b, 0, none⟩)) (hL : Lies w b 23 (boxT t))
    (h : wpList Try.prog ops Q rest (a.put op.dst (aggK t)) w) : wpList Try.prog ops Q (op :: rest) a w :=
  wpList_load_mid hgd 23 x ho b 0 hx (cellsK t) _ (fun j v hv => by rw [Nat.zero_add, hL.cell, ← hv, ← Array.getElem?_toList]; rfl) Try.underlying23 rfl taskSize h
end
end Go.Proofs.Ytbofpbochgoafaa
