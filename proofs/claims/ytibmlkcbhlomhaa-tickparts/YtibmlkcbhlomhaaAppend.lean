/- 'append(row, xs...)' onto a row of the call's own, of numbers, the source nil or not: a law for the walk of this program. And the sum of such a row. -/
import Derived.Test.YtibmlkcbhlomhaaReads
import Derived.Laws.AppendOwnNone
import Derived.OwnWalk
namespace Go.Proofs.Ytibmlkcbhlomhaa
open Go.RowKit

/-- Numbers as cells. -/
def cellsOf (l : List Int) : List Value := l.map (Value.int .i64)
theorem cellsOf_length (l : List Int) : (cellsOf l).length = l.length := by simp [cellsOf]
theorem cellsOf_append (x y : List Int) : cellsOf (x ++ y) = cellsOf x ++ cellsOf y := by simp [cellsOf]
theorem cellsOf_at {l : List Int} {j : Nat} {u : Value} (h : (cellsOf l)[j]? = some u) : j < l.length ∧ u = .int .i64 (l.getD j 0) := by
  simp only [cellsOf, List.getElem?_map, Option.map_eq_some_iff] at h
  obtain ⟨n, hn, rfl⟩ := h
  obtain ⟨hj, rfl⟩ := List.getElem?_eq_some_iff.1 hn
  exact ⟨hj, by simp [List.getD_eq_getElem?_getD, hj]⟩

theorem info3' : ((Try.prog.info? 3).map fun i => (i.zero, i.size, i.bytes)) = some (some (.int .i64 0), 1, 8) := by kernel_rfl
theorem info3 : ∃ i, Try.prog.info? 3 = some i ∧ i.zero = some (.int .i64 0) ∧ i.size = 1 ∧ i.bytes = 8 := by
  obtain ⟨i, hi, h⟩ := Option.map_eq_some_iff.1 info3'
  simp only [Prod.mk.injEq] at h
  exact ⟨i, hi, h.1, h.2.1, h.2.2⟩

theorem append_reads {ops : Array Oper} {rest : List Oper} {o : Oper} {a : Act} {Q : Exit → Act → World → Prop} (w : World) (hgd : o.guard = none) (s x : Operand)
    (ho : o.op = .call { callee := .builtin .append, args := #[s, x], argTypes := #[26, 26] })
    (base : Nat) (v : Value) (n : Nat) (xs : List Int) (hs : a.eval s = v) (hown : w.ownsRow base 3 1 v n (cellsOf xs))
    (A : Option Addr) (m c : Nat) (l : List Int) (hx : a.eval x = .slice A m c) (hc : A = none → c = 0) (hr : Reads w A m l) (h63 : n + m ≤ 1000) (hbase : base ≤ w.heap.size)
    (h : ∀ v' w', w'.ownsRow base 3 1 v' (n + m) (cellsOf (xs ++ l)) → w.grownBy w' v.ownBlock → wpList Try.prog ops Q rest (a.put o.dst v') w') : wpList Try.prog ops Q (o :: rest) a w := by
  obtain ⟨i, hi, hz, h1, h8⟩ := info3
  rcases A with _ | ad
  · have hm : m = 0 := by
      rcases hr.2 with h0 | ⟨b, off, e, _⟩
      · exact h0
      · cases e
    subst hm
    obtain rfl : l = [] := List.eq_nil_of_length_eq_zero hr.1
    obtain rfl := hc rfl
    refine wpList_append_own_none hgd s x 26 ho base 3 i 1 Try.underlying26 hi v n (cellsOf xs) hs hown hx ?_
    have := h v w (by simpa using hown) ⟨rfl, rfl, rfl, Nat.le_refl _, fun _ _ _ => rfl⟩
    exact this
  · refine wpList_append_own w hgd s x 26 ho base 3 i (.int .i64 0) 1 8 Try.underlying26 hi hz h1 h8 rfl (by decide) v n (cellsOf xs) hs hown ad m c (cellsOf l) hx (by rw [cellsOf_length, hr.1]; omega) ?_ ?_ (by unfold maxLen; omega) (by omega) hbase ?_
    · intro j u hu
      obtain ⟨hj, rfl⟩ := cellsOf_at hu
      have hj' : j < m := by rw [← hr.1]; exact hj
      rcases hr.2 with h0 | ⟨b, off, e, _, hcell⟩
      · omega
      · cases e
        have hadd : (Addr.mk b off none).add j = ⟨b, off + j, none⟩ := by cases j <;> simp [Addr.add]
        rw [hadd]; exact hcell j hj'
    · intro u hu
      obtain ⟨_, _, rfl⟩ := List.mem_map.1 hu
      rfl
    · intro v' w' h2 h3 _
      exact h v' w' (by rw [cellsOf_append]; exact h2) h3

/-- A row of the call's own reads as its numbers. -/
theorem own_reads {w : World} {base : Nat} {v : Value} {n : Nat} {l : List Int} (h : w.ownsRow base 3 1 v n (cellsOf l)) : ∃ A c, v = .slice A n c ∧ Reads w A n l := by
  have hl : l.length = n := by have := h.1; rw [cellsOf_length] at this; omega
  rcases h.2 with ⟨rfl, rfl⟩ | ⟨g, cap, cur, rfl, _, hg, _⟩
  · exact ⟨none, 0, rfl, hl, .inl rfl⟩
  · refine ⟨_, cap, rfl, hl, .inr ⟨g, 0, rfl, ?_, fun i hi => ?_⟩⟩
    · rcases Nat.lt_or_ge g w.heap.size with hlt | hge
      · exact hlt
      · rw [Array.getElem?_eq_none hge] at hg; cases hg
    · have hk := h.cells (g := g) rfl i (.int .i64 (l.getD i 0)) (by
        have : i < l.length := by omega
        simp [cellsOf, List.getD_eq_getElem?_getD, this])
      have hadd : (Addr.mk g 0 none).add i = ⟨g, 0 + i, none⟩ := by cases i <;> simp [Addr.add]
      rw [hadd] at hk; exact hk
end Go.Proofs.Ytibmlkcbhlomhaa
