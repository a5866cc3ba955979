/- A task made of its parts, within a great frame. -/
import Derived.Test.YteolepmopajamaaBs
namespace Go.Proofs.Yteolepmopajamaa
open Go.RowKit Lx Kx

set_option maxRecDepth 20000 in
set_option maxHeartbeats 2000000 in
theorem run_build40 (w : World) (s : ByteArray) (n1 n2 n3 n4 n5 n6 n7 n8 n9 n10 : Int) :
    (Instr.build 40 #[(0, .string s), (1, .int .i64 n1), (2, .int .i64 n2), (3, .int .i64 n3), (9, .int .i64 n9), (4, .int .i64 n4), (5, .int .i64 n5), (6, .int .i64 n6), (7, .int .i64 n7), (8, .int .i64 n8), (10, .int .i64 n10)]).run Try.prog w = .ok (aggK ⟨s, n1, n2, n3, n4, n5, n6, n7, n8, n9, n10⟩) w := by
  go_simp
  rfl
theorem step_build40 {w : World} {ops : Array Oper} {o : Oper} {a : Act} {K : Act → World → Prop} {Q : Exit → Act → World → Prop} {E : Prop} (hgd : o.guard = none) (x0 x1 x2 x3 x9 x4 x5 x6 x7 x8 x10 : Operand)
    (ho : o.op = .build 40 #[(0, x0), (1, x1), (2, x2), (3, x3), (9, x9), (4, x4), (5, x5), (6, x6), (7, x7), (8, x8), (10, x10)]) (t : Tk)
    (h0 : a.eval x0 = .string t.name) (h1 : a.eval x1 = .int .i64 t.T) (h2 : a.eval x2 = .int .i64 t.D) (h3 : a.eval x3 = .int .i64 t.C) (h9 : a.eval x9 = .int .i64 t.Mode) (h4 : a.eval x4 = .int .i64 t.A) (h5 : a.eval x5 = .int .i64 t.Seg) (h6 : a.eval x6 = .int .i64 t.Cost) (h7 : a.eval x7 = .int .i64 t.M) (h8 : a.eval x8 = .int .i64 t.K) (h10 : a.eval x10 = .int .i64 t.Prio)
    (h : K (a.put o.dst (aggK t)) w) :
    if Region.wanted o (yielded ops a.tmps) = true then Oper.wp Try.prog o a w K Q else E := by
  have hw : Region.wanted o (yielded ops a.tmps) = true := by simp [Region.wanted, hgd]
  rw [if_pos hw]
  unfold Oper.wp execOp
  have := run_build40 w t.name t.T t.D t.C t.A t.Seg t.Cost t.M t.K t.Mode t.Prio
  simp [ho, h0, h1, h2, h3, h4, h5, h6, h7, h8, h9, h10, this, Result.andThen]
  exact h
theorem wpList_build40 {ops : Array Oper} {rest : List Oper} {o : Oper} {a : Act} {w : World} {Q : Exit → Act → World → Prop} (hg : o.guard = none) (x0 x1 x2 x3 x9 x4 x5 x6 x7 x8 x10 : Operand)
    (ho : o.op = .build 40 #[(0, x0), (1, x1), (2, x2), (3, x3), (9, x9), (4, x4), (5, x5), (6, x6), (7, x7), (8, x8), (10, x10)]) (t : Tk)
    (h0 : a.eval x0 = .string t.name) (h1 : a.eval x1 = .int .i64 t.T) (h2 : a.eval x2 = .int .i64 t.D) (h3 : a.eval x3 = .int .i64 t.C) (h9 : a.eval x9 = .int .i64 t.Mode) (h4 : a.eval x4 = .int .i64 t.A) (h5 : a.eval x5 = .int .i64 t.Seg) (h6 : a.eval x6 = .int .i64 t.Cost) (h7 : a.eval x7 = .int .i64 t.M) (h8 : a.eval x8 = .int .i64 t.K) (h10 : a.eval x10 = .int .i64 t.Prio)
    (h : wpList Try.prog ops Q rest (a.put o.dst (aggK t)) w) : wpList Try.prog ops Q (o :: rest) a w := by
  refine wpList_plain hg fun _ hK => ?_
  unfold Oper.wp execOp
  have := run_build40 w t.name t.T t.D t.C t.A t.Seg t.Cost t.M t.K t.Mode t.Prio
  simp [ho, h0, h1, h2, h3, h4, h5, h6, h7, h8, h9, h10, this, Result.andThen]
  exact hK _ _ h
theorem wpList_build_task {ops : Array Oper} {rest : List Oper} {o : Oper} {a : Act} {w : World} {Q : Exit → Act → World → Prop} (hg : o.guard = none) (x : Operand) (ho : o.op = .buildSlice 24 1 #[(0, x)]) (t : Tk) (hx : a.eval x = aggK t)
    (h : wpList Try.prog ops Q rest (a.put o.dst (.slice (some ⟨w.heap.size, 0, none⟩) 1 1)) (w.alloc (.cells (boxC t) 40))) : wpList Try.prog ops Q (o :: rest) a w := by
  refine wpList_plain hg fun _ hK => ?_
  unfold Oper.wp execOp
  have := run_build_task w t
  simp [ho, hx, this, Result.andThen]
  exact hK _ _ h
theorem wpList_append_task {w : World} {ops : Array Oper} {rest : List Oper} {o : Oper} {a : Act} {Q : Exit → Act → World → Prop} (hgd : o.guard = none) (s x : Operand)
    (hop : o.op = .call { callee := .builtin .append, args := #[s, x], argTypes := #[24, 24] })
    (base n c N b : Nat) (v : Value) (xs : List Tk) (t : Tk) (hs : a.eval s = v) (hx : a.eval x = .slice (some ⟨b, 0, none⟩) 1 c)
    (ho : w.ownsRow base 40 11 v n (flatK xs)) (hb : Lies w b 40 (boxC t)) (hN : n + 1 = N) (hn : n ≤ 1000000) (hbase : base ≤ w.heap.size)
    (h : ∀ A cap w', LongerK base w v N (xs ++ [t]) A cap w' → wpList Try.prog ops Q rest (a.put o.dst (.slice A N cap)) w') : wpList Try.prog ops Q (o :: rest) a w := by
  subst hN
  obtain ⟨A, cap, w', hrun, hl⟩ := run_append_task o.type (c := c) ho hb hn hbase
  exact Lib.wpList_append_run w hgd s x 24 24 hop _ _ hs hx _ _ hrun (h A cap w' hl)
end Go.Proofs.Yteolepmopajamaa
