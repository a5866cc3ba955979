/- Slices of one struct, made within a great frame; a task made of its parts. -/
import Derived.Test.YteolepmopajamaaRa
import Derived.Great.BuildSlice
namespace Go.Proofs.Yteolepmopajamaa
open Go.RowKit Lx Kx

theorem fill5 (init : Array Value) (h : init.size = 5) (a0 a1 a2 a3 a4 : Value) : Instr.fill (fun i => some (i * 5, 5)) init [(0, .agg #[a0, a1, a2, a3, a4])] = some #[a0, a1, a2, a3, a4] := by
  obtain ⟨l⟩ := init
  match l, h with
  | [b0, b1, b2, b3, b4], _ => simp [Instr.fill, Value.cells]
theorem fill11 (init : Array Value) (h : init.size = 11) (a0 a1 a2 a3 a4 a5 a6 a7 a8 a9 a10 : Value) : Instr.fill (fun i => some (i * 11, 11)) init [(0, .agg #[a0, a1, a2, a3, a4, a5, a6, a7, a8, a9, a10])] = some #[a0, a1, a2, a3, a4, a5, a6, a7, a8, a9, a10] := by
  obtain ⟨l⟩ := init
  match l, h with
  | [b0, b1, b2, b3, b4, b5, b6, b7, b8, b9, b10], _ => simp [Instr.fill, Value.cells]
theorem run_build_tok (w : World) (a0 a1 a2 a3 a4 : Value) : (Instr.buildSlice 41 1 #[(0, .agg #[a0, a1, a2, a3, a4])]).run Try.prog w = .ok (.slice (some ⟨w.heap.size, 0, none⟩) 1 1) (w.alloc (.cells #[a0, a1, a2, a3, a4] 45)) := by
  obtain ⟨i, z, hi, hz, hs, _, hzs⟩ := tokInfo
  refine run_buildSlice w 41 45 1 _ _ i z Try.underlying41 hi hz (by rw [hs]; decide) (by rw [hs]; decide) ?_
  rw [hs]
  exact fill5 _ (by simp) a0 a1 a2 a3 a4
theorem run_build_task (w : World) (t : Tk) : (Instr.buildSlice 24 1 #[(0, aggK t)]).run Try.prog w = .ok (.slice (some ⟨w.heap.size, 0, none⟩) 1 1) (w.alloc (.cells (boxC t) 40)) := by
  obtain ⟨i, hi, hz, hs, _⟩ := taskInfo
  refine run_buildSlice w 24 40 1 _ _ i _ Try.underlying24 hi hz (by rw [hs]; decide) (by rw [hs]; decide) ?_
  rw [hs]
  exact fill11 _ (by simp) _ _ _ _ _ _ _ _ _ _ _
theorem wpList_build_tok {ops : Array Oper} {rest : List Oper} {o : Oper} {a : Act} {w : World} {Q : Exit → Act → World → Prop} (hg : o.guard = none) (x : Operand) (ho : o.op = .buildSlice 41 1 #[(0, x)]) (a0 a1 a2 a3 a4 : Value) (hx : a.eval x = .agg #[a0, a1, a2, a3, a4])
    (h : wpList Try.prog ops Q rest (a.put o.dst (.slice (some ⟨w.heap.size, 0, none⟩) 1 1)) (w.alloc (.cells #[a0, a1, a2, a3, a4] 45))) : wpList Try.prog ops Q (o :: rest) a w := by
  refine wpList_plain hg fun _ hK => ?_
  unfold Oper.wp execOp
  have := run_build_tok w a0 a1 a2 a3 a4
  simp [ho, hx, this, Result.andThen]
  exact hK _ _ h
theorem step_build_task {w : World} {ops : Array Oper} {o : Oper} {a : Act} {K : Act → World → Prop} {Q : Exit → Act → World → Prop} {E : Prop} (hgd : o.guard = none) (x : Operand) (ho : o.op = .buildSlice 24 1 #[(0, x)]) (t : Tk) (hx : a.eval x = aggK t)
    (h : K (a.put o.dst (.slice (some ⟨w.heap.size, 0, none⟩) 1 1)) (w.alloc (.cells (boxC t) 40))) :
    if Region.wanted o (yielded ops a.tmps) = true then Oper.wp Try.prog o a w K Q else E := by
  have hw : Region.wanted o (yielded ops a.tmps) = true := by simp [Region.wanted, hgd]
  rw [if_pos hw]
  unfold Oper.wp execOp
  have := run_build_task w t
  simp [ho, hx, this, Result.andThen]
  exact h
end Go.Proofs.Yteolepmopajamaa
