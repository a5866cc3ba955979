/- A new promoter: a new wheel's cells, in a block of the promoter's own. -/
import Derived.Test.YtlodfipiodlgdaaUp
import Derived.Laws.Tables
import Derived.Laws.Rows
namespace Go.Proofs.Ytlodfipiodlgdaa
open Go.RowKit

set_option maxRecDepth 100000 in
theorem zero_is : ((Try.prog.info? 55).bind (·.zero)).map (fun z => match z with | .agg cs => (cs.size, cs[1]?, cs.toList.drop 2) | _ => (0, none, [])) = some (66, some (.int .i64 0), List.replicate 64 (.slice none 0 0)) := by kernel_rfl
/-- A wheel's cells, all 0. -/
theorem zero_cells : ∃ cs : Array Value, (∀ w, (zeroValue 55).run Try.prog w = .ok (.agg cs) w) ∧ cs.size = 66 ∧ cs[1]? = some (.int .i64 0) ∧ ∀ j, j < 64 → cs[2 + j]? = some (.slice none 0 0) := by
  obtain ⟨z, h1, h2⟩ := Option.map_eq_some_iff.1 zero_is
  obtain ⟨i, hi, hz⟩ := Option.bind_eq_some_iff.1 h1
  cases z with
  | agg cs =>
    simp only [Prod.mk.injEq] at h2
    refine ⟨cs, fun w => by simp [zeroValue, typeInfo, hi, hz], h2.1, h2.2.1, fun j hj => ?_⟩
    rw [← Array.getElem?_toList, ← List.getElem?_drop, h2.2.2, List.getElem?_replicate, if_pos hj]
  | _ => simp at h2
/-- A new wheel's cells. -/
structure Bare (n : Nat) (cs : Array Value) : Prop where
  size : cs.size = 66
  room : cs[0]? = some (.int .i64 (n : Int))
  now_ : cs[1]? = some (.int .i64 0)
  places : ∀ j, j < 64 → cs[2 + j]? = some (.slice none 0 0)

set_option maxHeartbeats 400000 in
theorem wheel_no (k : Int) (w : World) (h : k < 1 ∨ 1024 < k) :
    Calls Try.prog 14 #[.int .i64 k] w (Says (.tuple #[.pointer none, .int .i64 1]) w) := by
  rcases h with h | h
  · go_enter Try.func14, Try.ntmps14
    go_wp2
    go_ret2
    exact ⟨rfl, rfl⟩
  · have h' : ¬ k < 1 := by omega
    go_enter Try.func14, Try.ntmps14
    go_wp2
    go_ret2
    exact ⟨rfl, rfl⟩
/-- A new wheel: its block is the next one. -/
def Wheels (n : Nat) (w : World) (e : Ending) (w' : World) : Prop :=
  ∃ cs, e = .returned (.tuple #[.pointer (some ⟨w.heap.size, 0, none⟩), .int .i64 0]) ∧ w' = w.alloc (.cells cs 55) ∧ Bare n cs
set_option maxHeartbeats 400000 in
theorem wheel_new (n : Nat) (w : World) (h1 : 1 ≤ n) (h2 : n ≤ 1024) : Calls Try.prog 14 #[.int .i64 (n : Int)] w (Wheels n w) := by
  have t1 : decide ((n : Int) < 1) = false := by simp; omega
  have t2 : decide ((1024 : Int) < (n : Int)) = false := by simp; omega
  obtain ⟨cs, hb, c1, c2, c3⟩ := zero_cells
  have HI : Hid (Bare n (cs.setIfInBounds 0 (.int .i64 (n : Int)))) := ⟨by simpa using c1, by rw [Array.getElem?_setIfInBounds, if_pos rfl, if_pos (by omega)], by rw [Array.getElem?_setIfInBounds, if_neg (by omega)]; exact c2, fun j hj => by rw [Array.getElem?_setIfInBounds, if_neg (by omega)]; exact c3 j hj⟩
  have hne : ¬ cs = #[] := fun e => by rw [e] at c1; simp at c1
  clear c1 c2 c3
  go_enter Try.func14, Try.ntmps14
  go_wp2
  go_ret2
  exact ⟨_, rfl, rfl, HI.out⟩

/-- Cells that are written one behind the other. -/
theorem fold_at : ∀ (cs : List Value) (o : Nat) (z : Array Value) (i : Nat), o + cs.length ≤ z.size →
    ((cs.zipIdx o).foldl (fun a x => a.setIfInBounds (0 + x.2) x.1) z)[i]? = if o ≤ i ∧ i < o + cs.length then cs[i - o]? else z[i]?
  | [], o, z, i, _ => by simp; omega
  | c :: cs, o, z, i, h => by
    simp only [List.zipIdx_cons, List.foldl_cons]
    rw [fold_at cs (o + 1) _ i (by simp at h ⊢; omega)]
    by_cases h1 : o + 1 ≤ i ∧ i < o + 1 + cs.length
    · rw [if_pos h1, if_pos (by simp; omega), show i - o = (i - (o + 1)) + 1 by omega, List.getElem?_cons_succ]
    · rw [if_neg h1, Array.getElem?_setIfInBounds]
      by_cases h2 : i = o
      · subst h2
        simp at h
        rw [if_pos (by omega), if_pos (by omega), if_pos (by simp), Nat.sub_self]
        rfl
      · rw [if_neg (by omega), if_neg (by simp; omega)]
theorem fold_whole (cs z : Array Value) (h : cs.size = z.size) : cs.zipIdx.foldl (fun a x => a.setIfInBounds (0 + x.2) x.1) z = cs := by
  rw [← Array.foldl_toList, Array.toList_zipIdx]
  refine Array.ext_getElem? fun i => ?_
  rw [fold_at cs.toList 0 z i (by simp; omega)]
  by_cases hi : i < cs.size
  · rw [if_pos (by simpa using hi)]; simp
  · rw [if_neg (by simp; omega), Array.getElem?_eq_none (by omega), Array.getElem?_eq_none (by omega)]

theorem zero57 : ((Try.prog.info? 57).bind (·.zero)).map (fun z => z.cells.size) = some 66 := by kernel_rfl
theorem places57 : (match Try.prog.underlying 57 with | some (.struct fields) => fields.toList.mapM (fun f => (Try.prog.info? f.type).map fun i => (f.offset, i.size)) | _ => none) = some [(0, 66)] := by kernel_rfl
/-- A wheel's cells, as a promoter's. -/
theorem built57 (cs : Array Value) (h : cs.size = 66) : Try.prog.built 57 [(0, .agg cs)] = some cs := by
  obtain ⟨z, hz, hs⟩ := Option.map_eq_some_iff.1 zero57
  obtain ⟨it, hi, hz⟩ := Option.bind_eq_some_iff.1 hz
  have hp := places57
  unfold Program.built
  cases hu : Try.prog.underlying 57 with
  | none => rw [hu] at hp; cases hp
  | some d =>
    rw [hu] at hp
    cases d with
    | struct fields =>
      simp only at hp
      simp only [hi, hz, hp]
      have hc : (Value.agg cs).cells = cs := rfl
      simp only [Instr.fill, List.getElem?_toArray, List.getElem?_cons_zero, hc, h, hs]
      simp only [ne_eq, not_true_eq_false, decide_false, Nat.zero_add, gt_iff_lt, Nat.lt_irrefl, Bool.or_self, Bool.false_eq_true, if_false]
      have := fold_whole cs z.cells (by omega)
      simp only [Nat.zero_add] at this
      exact congrArg some this
    | _ => cases hp

theorem wpList_load_it {q : Nat} {A : Array Value} {ops : Array Oper} {rest : List Oper} {op : Oper} {a : Act} {w : World} {Q : Exit → Act → World → Prop} (hgd : op.guard = none) (ty : TypeId) (x : Operand) (ho : op.op = .load ty x)
    (hl : (Instr.loadAt ty (.pointer (some ⟨q, 0, none⟩))).run Try.prog w = .ok (.agg A) w) (hx : a.eval x = .pointer (some ⟨q, 0, none⟩)) (h : wpList Try.prog ops Q rest (a.put op.dst (.agg A)) w) : wpList Try.prog ops Q (op :: rest) a w := by
  refine wpList_plain hgd fun _ hK => ?_
  unfold Oper.wp execOp
  simp only [ho, hx, Sem.run_bind, hl, Sem.run_pure, Result.andThen_ok]
  exact hK _ _ h
theorem wpList_build_it {ops : Array Oper} {rest : List Oper} {o : Oper} {a : Act} {w : World} {Q : Exit → Act → World → Prop} (hg : o.guard = none) (t : TypeId) (parts : Array (Nat × Operand)) (ho : o.op = .build t parts) (cs : Array Value)
    (hf : Try.prog.built t (parts.map fun (i, x) => (i, a.eval x)).toList = some cs)
    (h : wpList Try.prog ops Q rest (a.put o.dst (.agg cs)) w) : wpList Try.prog ops Q (o :: rest) a w :=
  wpList_build hg t parts ho (by rw [hf]; rfl) (by rw [hf]; exact h)
theorem info55 : (Try.prog.info? 55).map (·.size) = some 66 := by kernel_rfl
theorem whl_new {B n p : Nat} {cs : Array Value} {W : World} (hB : B ≤ p) (hp : Lies W p 57 cs) (h : Bare n cs) (hn : 1 ≤ n) (hm : n ≤ 1024) : Whl (fun k => k = p) B W p n 0 [] :=
  ⟨hn, hm, Nat.zero_le _, Good.nil, by omega, by omega, fun d hd => by simp at hd, fun k hk => by subst hk; exact ⟨hB, hp.lt⟩, rfl, fun _ => .slice none 0 0,
    ⟨cs, hp, h.size, h.room, h.now_, h.places⟩, fun _ _ => World.ownsRow_nil _ _ _ _, (fun _ _ _ hk => by cases hk), (fun _ _ _ _ _ hk => by cases hk)⟩
/-- A new promoter: its block is the next but one. -/
def News (B n : Nat) (w : World) (e : Ending) (w' : World) : Prop :=
  ∃ p, e = .returned (.tuple #[.pointer (some ⟨p, 0, none⟩), .int .i64 0]) ∧ w.heap.size ≤ p ∧ Whl (fun k => k = p) B w' p n 0 [] ∧ Below w.heap.size w w'
set_option maxHeartbeats 400000 in
theorem new_no (k : Int) (w : World) (h : k < 1 ∨ 1024 < k) :
    Calls Try.prog 8 #[.int .i64 k] w (Says (.tuple #[.pointer none, .int .i64 1]) w) := by
  have KW := Lib.hid (wheel_no k w h)
  clear h
  go_enter Try.func8, Try.ntmps8
  go_wp2_with (fail)
  with_reducible refine KW.out.mono ?_
  rintro e w1 ⟨rfl, rfl⟩
  go_wp2
  go_ret2
  exact ⟨rfl, rfl⟩
set_option maxHeartbeats 1000000 in
theorem new_yes {B : Nat} (n : Nat) (w : World) (hB : B ≤ w.heap.size) (h1 : 1 ≤ n) (h2 : n ≤ 1024) : Calls Try.prog 8 #[.int .i64 (n : Int)] w (News B n w) := by
  have KW := Lib.hid (wheel_new n w h1 h2)
  go_enter Try.func8, Try.ntmps8
  go_wp2_with (fail)
  with_reducible refine KW.out.mono ?_
  rintro e w1 ⟨cs, rfl, rfl, hbare⟩
  have HB := Lib.hid hbare
  have HL := Lib.hid (Lies.made w 55 cs)
  have hs := hbare.size
  clear hbare
  have hl : (Instr.loadAt 55 (.pointer (some ⟨w.heap.size, 0, none⟩))).run Try.prog (w.alloc (.cells cs 55)) = .ok (.agg cs) (w.alloc (.cells cs 55)) := run_loadAt_mid _ w.heap.size 0 55 cs.toList _ (fun j v hv => by rw [HL.out.cell, Nat.zero_add, ← Array.getElem?_toList]; exact hv) Try.underlying55 rfl (by rw [info55]; simp [hs])
  have hb := built57 cs hs
  have HLL := Lib.hid hl
  have HBB := Lib.hid hb
  clear hl hb
  go_wp2_with (first
    | refine wpList_load_it rfl 55 (.tmp 15) rfl HLL.out rfl ?_
    | refine wpList_build_it rfl 57 #[(0, Operand.tmp 16)] rfl cs (by simp [Act.eval]; exact HBB.out) ?_)
  go_ret2
  have hL2 : Lies ((w.alloc (.cells cs 55)).alloc (.cells cs 57)) (w.heap.size + 1) 57 cs := by
    have := Lies.made (w.alloc (.cells cs 55)) 57 cs
    simpa using this
  exact ⟨_, rfl, Nat.le_succ _, whl_new (by omega) hL2 HB.out h1 h2, (below_new w _).trans ((below_new (w.alloc (.cells cs 55)) _).mono (by simp))⟩
end Go.Proofs.Ytlodfipiodlgdaa
