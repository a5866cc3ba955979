/- Tasks in a block that is known whole, and written task by task. -/
import Derived.Test.YtkldpbehjbecnaaFw
import Derived.Test.YtkldpbehjbecnaaCl
import Derived.Deep.MidRow
namespace Go.Proofs.Ytkldpbehjbecnaa
open Go.RowKit

/-- Block g has room for n tasks; the first are l. -/
def TRow (w : World) (g n : Nat) (l : List Tk) : Prop :=
  ∃ cs : Array Value, Lies w g 32 cs ∧ cs.size = n * 11 ∧ l.length ≤ n ∧ ∀ i t, l[i]? = some t → ∀ j v, (cellsK t)[j]? = some v → cs[i * 11 + j]? = some v
theorem len_cellsK (t : Tk) : (cellsK t).length = 11 := rfl
theorem lies_setCells {g : Nat} {ty : TypeId} : ∀ (vs : List Value) (o : Nat) (w : World) (cs : Array Value), Lies w g ty cs →
    ∃ cs', Lies (w.setCells g o vs) g ty cs' ∧ cs'.size = cs.size ∧ (∀ j v, vs[j]? = some v → o + j < cs.size → cs'[o + j]? = some v) ∧ ∀ i, (i < o ∨ o + vs.length ≤ i) → cs'[i]? = cs[i]?
  | [], o, w, cs, h => ⟨cs, h, rfl, fun j v hv => by simp at hv, fun _ _ => rfl⟩
  | u :: vs, o, w, cs, h => by
    obtain ⟨cs', h1, h2, h3, h4⟩ := lies_setCells vs (o + 1) _ _ (h.here o u)
    refine ⟨cs', h1, by rw [h2]; simp, fun j v hv hlt => ?_, fun i hi => ?_⟩
    · cases j with
      | zero =>
        have : u = v := by simpa using hv
        subst this
        rw [Nat.add_zero, h4 o (.inl (by omega)), Array.getElem?_setIfInBounds, if_pos rfl, if_pos (by omega)]
      | succ j =>
        have := h3 j v (by simpa using hv) (by simp; omega)
        rw [show o + (j + 1) = o + 1 + j by omega]; exact this
    · rw [h4 i (by simp at hi; omega), Array.getElem?_setIfInBounds, if_neg (by simp at hi; omega)]
section
variable {w w' : World} {g n B : Nat} {l : List Tk}
theorem TRow.lt (h : TRow w g n l) : g < w.heap.size := by
  obtain ⟨cs, h1, _⟩ := h
  exact h1.lt
theorem TRow.below (h : TRow w g n l) (hb : Below B w w') (hB : g < B) : TRow w' g n l := by
  obtain ⟨cs, h1, h2⟩ := h
  exact ⟨cs, h1.below hb hB, h2⟩
theorem TRow.there (h : TRow w g n l) {a : Addr} (ha : g ≠ a.block) (u : Value) : TRow (w.setCell a u) g n l := by
  obtain ⟨cs, h1, h2⟩ := h
  exact ⟨cs, h1.there ha u, h2⟩
theorem TRow.tasks (h : TRow w g n l) : Tasks w (some ⟨g, 0, none⟩) n l := by
  obtain ⟨cs, h1, h2, h3, h4⟩ := h
  refine ⟨h3, fun _ => ⟨g, 0, rfl, h1.lt, fun i t hi j v hj => ?_⟩⟩
  rw [h1.cell, Nat.zero_add]; exact h4 i t hi j v hj
theorem TRow.room (h : TRow w g n l) {k : Nat} (hk : k < n) : w.there g (k * 11) 11 := by
  obtain ⟨cs, h1, h2, h3, h4⟩ := h
  intro j hj
  refine ⟨?_, h1.thawed _⟩
  rw [h1.cell, Array.getElem?_eq_getElem (by omega)]; rfl
/-- A place's eleven cells, whatever they hold. -/
theorem TRow.at_ (h : TRow w g n l) {k : Nat} (hk : k < n) : ∃ u : Nat → Value, ∀ j, j < 11 → w.cell? ⟨g, k * 11 + j, none⟩ = some (u j) ∧ w.frozen? ⟨g, k * 11 + j, none⟩ = false := by
  obtain ⟨cs, h1, h2, h3, h4⟩ := h
  refine ⟨fun j => (cs[k * 11 + j]?).getD undef, fun j hj => ⟨?_, h1.thawed _⟩⟩
  rw [h1.cell]
  have : cs[k * 11 + j]? = some (cs[k * 11 + j]'(by omega)) := Array.getElem?_eq_getElem _
  simp only [this, Option.getD_some]
/-- The next task is laid. -/
theorem TRow.put (h : TRow w g n l) (t : Tk) (hk : l.length < n) : TRow (w.setCells g (l.length * 11) (cellsK t)) g n (l ++ [t]) := by
  obtain ⟨cs, h1, h2, h3, h4⟩ := h
  obtain ⟨cs', k1, k2, k3, k4⟩ := lies_setCells (cellsK t) (l.length * 11) _ _ h1
  refine ⟨cs', k1, k2.trans h2, by simp; omega, fun i x hi j v hj => ?_⟩
  have hj11 : j < 11 := (List.getElem?_eq_some_iff.1 hj).1
  by_cases hil : i < l.length
  · rw [List.getElem?_append_left hil] at hi
    rw [k4 _ (.inl (by omega))]; exact h4 i x hi j v hj
  · have hi2 : i = l.length := by
      have := (List.getElem?_eq_some_iff.1 hi).1
      simp at this; omega
    subst hi2
    have : t = x := by simpa using hi
    subst this
    exact k3 j v hj (by omega)
/-- A task is written over, whichever. -/
theorem TRow.spoil (h : TRow w g n l) (o : Nat) (vs : List Value) : TRow (w.setCells g o vs) g n [] := by
  obtain ⟨cs, h1, h2, h3, h4⟩ := h
  obtain ⟨cs', k1, k2, _⟩ := lies_setCells vs o _ _ h1
  exact ⟨cs', k1, k2.trans h2, Nat.zero_le _, fun i t hi => by simp at hi⟩
theorem TRow.bare (h : TRow w g n l) : TRow w g n [] := by
  obtain ⟨cs, h1, h2, h3, h4⟩ := h
  exact ⟨cs, h1, h2, Nat.zero_le _, fun i t hi => by simp at hi⟩
end
theorem below_setCells {B g : Nat} {w0 : World} (hg : B ≤ g) : ∀ (vs : List Value) (o : Nat) (w : World), Below B w0 w → Below B w0 (w.setCells g o vs)
  | [], _, _, h => h
  | u :: vs, o, _, h => below_setCells hg vs (o + 1) _ (h.setCell (p := ⟨g, o, none⟩) hg u)
theorem lies_other {g b : Nat} {ty : TypeId} {cs : Array Value} (hg : b ≠ g) : ∀ (vs : List Value) (o : Nat) (w : World), Lies w b ty cs → Lies (w.setCells g o vs) b ty cs
  | [], _, _, h => h
  | u :: vs, o, _, h => lies_other hg vs (o + 1) _ (h.there (a := ⟨g, o, none⟩) hg u)

theorem taskInfo' : ((Try.prog.info? 32).map fun i => (i.zero, i.size, i.bytes)) = some (some (aggK ⟨⟨#[]⟩, 0, 0, 0, 0, 0, 0, 0, 0, 0, 0⟩), 11, 96) := by kernel_rfl
theorem taskInfo : ∃ i, Try.prog.info? 32 = some i ∧ i.zero = some (aggK ⟨⟨#[]⟩, 0, 0, 0, 0, 0, 0, 0, 0, 0, 0⟩) ∧ i.size = 11 ∧ i.bytes = 96 := by
  obtain ⟨i, hi, h⟩ := Option.map_eq_some_iff.1 taskInfo'
  simp only [Prod.mk.injEq] at h
  exact ⟨i, hi, h.1, h.2.1, h.2.2⟩
def zeroC : Array Value := (aggK ⟨⟨#[]⟩, 0, 0, 0, 0, 0, 0, 0, 0, 0, 0⟩).cells
theorem make_tasks (n : Nat) (hn : n ≤ 1000) (W : World) : (Instr.makeSlice 22 (.int .i64 (n : Int)) (.int .i64 (n : Int))).run Try.prog W = .ok (.slice (some ⟨W.heap.size, 0, none⟩) n n) (W.alloc (.cells (madeCells zeroC (n * 11)) 32)) := by
  obtain ⟨i0, hi0, hz0, hs0, hb0⟩ := taskInfo
  have := run_make (P := Try.prog) W 22 32 i0 _ Try.underlying22 hi0 hz0 .i64 .i64 n n (by omega) (by omega) (by rw [hb0]; omega) (by omega)
  rw [hs0] at this
  exact this
theorem made_tasks (W : World) (n : Nat) : TRow (W.alloc (.cells (madeCells zeroC (n * 11)) 32)) W.heap.size n [] :=
  ⟨_, Lies.made W 32 _, by rw [size_madeCells], Nat.zero_le _, fun i t hi => by simp at hi⟩
theorem one_cellsK (t : Tk) : ∀ u ∈ cellsK t, u.oneCell' = true := by
  intro u hu
  simp only [cellsK, List.mem_cons, List.not_mem_nil, or_false] at hu
  rcases hu with rfl | rfl | rfl | rfl | rfl | rfl | rfl | rfl | rfl | rfl | rfl <;> rfl
theorem taskSize : (Try.prog.info? 32).map (·.size) = some 11 := by kernel_rfl
/-- A task is stored into its place. -/
theorem store_task {ops : Array Oper} {rest : List Oper} {op : Oper} {a : Act} {w : World} {Q : Exit → Act → World → Prop} (hgd : op.guard = none) (x y : Operand) (ho : op.op = .store 32 x y)
    (b k : Nat) (t : Tk) (hx : a.eval x = .pointer (some ⟨b, k * 11, none⟩)) (hy : a.eval y = aggK t) (ht : w.there b (k * 11) 11)
    (h : wpList Try.prog ops Q rest (a.put op.dst undef) (w.setCells b (k * 11) (cellsK t))) : wpList Try.prog ops Q (op :: rest) a w :=
  wpList_store_mid hgd 32 x y ho b (k * 11) (cellsK t).toArray hx hy ht taskSize (all_oneCell_toArray (one_cellsK t)) h
end Go.Proofs.Ytkldpbehjbecnaa
