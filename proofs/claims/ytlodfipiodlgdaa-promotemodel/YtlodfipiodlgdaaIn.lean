/- Rows of numbers: appended to, read. -/
import Derived.Test.YtlodfipiodlgdaaGk
import Derived.Laws.Rows
import Derived.Laws.MakeOwn
import Derived.Laws.AppendOwnNone
import Derived.OwnWalk
namespace Go.Proofs.Ytlodfipiodlgdaa
open Go.RowKit

/-- A slice that begins at a, with room for cap, reads as the numbers l. -/
structure Ints (w : World) (a : Option Addr) (cap : Nat) (l : List Int) : Prop where
  le : l.length ≤ cap
  form : 0 < l.length → ∃ b off, a = some ⟨b, off, none⟩ ∧ b < w.heap.size ∧ ∀ i t, l[i]? = some t → w.cell? ⟨b, off + i, none⟩ = some (.int .i64 t)
theorem Ints.turns {w w' : World} {S : Nat → Prop} {a : Option Addr} {cap : Nat} {l : List Int} (h : Ints w a cap l) (ht : Turns S w w') (hS : ∀ x, a = some x → ¬ S x.block) : Ints w' a cap l := by
  refine ⟨h.le, fun h0 => ?_⟩
  obtain ⟨b, off, ha, hlt, hc⟩ := h.form h0
  refine ⟨b, off, ha, Nat.lt_of_lt_of_le hlt ht.size, fun i t hi => ?_⟩
  have hh := ht.block b hlt (hS ⟨b, off, none⟩ ha)
  have : w'.cell? ⟨b, off + i, none⟩ = w.cell? ⟨b, off + i, none⟩ := by simp only [World.cell?, hh]
  rw [this]
  exact hc i t hi
theorem Ints.at_ {w : World} {a : Option Addr} {cap : Nat} {l : List Int} (h : Ints w a cap l) {i : Nat} {t : Int} (hi : l[i]? = some t) : ∃ b off, a = some ⟨b, off, none⟩ ∧ b < w.heap.size ∧ w.cell? ⟨b, off + i, none⟩ = some (.int .i64 t) := by
  have hlt := (List.getElem?_eq_some_iff.1 hi).1
  obtain ⟨b, off, ha, hb, hc⟩ := h.form (by omega)
  exact ⟨b, off, ha, hb, hc i t hi⟩
theorem Ints.below {w w' : World} {a : Option Addr} {cap B : Nat} {l : List Int} (h : Ints w a cap l) (hB : w.heap.size ≤ B) (hb : Below B w w') : Ints w' a cap l := by
  refine ⟨h.le, fun h0 => ?_⟩
  obtain ⟨b, off, ha, hlt, hc⟩ := h.form h0
  refine ⟨b, off, ha, Nat.lt_of_lt_of_le hlt hb.size, fun i t hi => ?_⟩
  rw [hb.cell (p := ⟨b, off + i, none⟩) (Nat.lt_of_lt_of_le hlt hB)]; exact hc i t hi
theorem intInfo' : ((Try.prog.info? 3).map fun i => (i.zero, i.size, i.bytes)) = some (some (.int .i64 0), 1, 8) := by kernel_rfl
theorem intInfo : ∃ i, Try.prog.info? 3 = some i ∧ i.zero = some (.int .i64 0) ∧ i.size = 1 ∧ i.bytes = 8 := by
  obtain ⟨i, hi, h⟩ := Option.map_eq_some_iff.1 intInfo'
  simp only [Prod.mk.injEq] at h
  exact ⟨i, hi, h.1, h.2.1, h.2.2⟩
/-- Block o, from place k on, holds the numbers of l. -/
def Rest (W : World) (o k : Nat) (l : List Int) : Prop := ∃ cs : Array Value, Lies W o 3 cs ∧ l.length ≤ cs.size ∧ ∀ i x, k ≤ i → l[i]? = some x → cs[i]? = some (.int .i64 x)
section
variable {W W' : World} {o k : Nat} {l : List Int} {S : Nat → Prop}
theorem Rest.lt (h : Rest W o k l) : o < W.heap.size := by obtain ⟨cs, h1, _⟩ := h; exact h1.lt
theorem Rest.tells (h : Rest W o k l) (hb : Below W.heap.size W W') : Rest W' o k l := by obtain ⟨cs, h1, h2⟩ := h; exact ⟨cs, h1.below hb h1.lt, h2⟩
theorem Rest.turns (h : Rest W o k l) (ht : Turns S W W') (hS : ¬ S o) : Rest W' o k l := by obtain ⟨cs, h1, h2⟩ := h; exact ⟨cs, h1.turns ht hS, h2⟩
theorem Rest.drewN (h : Rest W o k l) (n : Nat) : Rest (W.drewN n) o k l := h
theorem Rest.cell (h : Rest W o k l) {i : Nat} {x : Int} (hk : k ≤ i) (hi : l[i]? = some x) : W.cell? ⟨o, i, none⟩ = some (.int .i64 x) := by obtain ⟨cs, h1, h2, h3⟩ := h; rw [h1.cell]; exact h3 i x hk hi
theorem Rest.thawed (h : Rest W o k l) (i : Nat) : W.frozen? ⟨o, i, none⟩ = false := by obtain ⟨cs, h1, h2, h3⟩ := h; exact h1.thawed i
theorem Rest.put (h : Rest W o 0 l) (j : Nat) (x : Int) : Rest (W.setCell ⟨o, j, none⟩ (.int .i64 x)) o 0 (l.set j x) := by
  obtain ⟨cs, h1, h2, h3⟩ := h
  refine ⟨_, h1.here j _, by simpa using h2, fun i y _ hi => ?_⟩
  rw [Array.getElem?_setIfInBounds]
  rw [List.getElem?_set] at hi
  split at hi
  · rename_i e
    subst e
    split at hi
    · cases hi
      rw [if_pos rfl, if_pos (by omega)]
    · cases hi
  · rename_i e
    rw [if_neg e]
    exact h3 i y (by omega) hi
theorem Rest.set (h : Rest W o k l) (v : Value) : Rest (W.setCell ⟨o, k, none⟩ v) o (k + 1) l := by
  obtain ⟨cs, h1, h2, h3⟩ := h
  refine ⟨_, h1.here k v, by simpa using h2, fun i x hk hi => ?_⟩
  rw [Array.getElem?_setIfInBounds, if_neg (by omega)]
  exact h3 i x (by omega) hi
theorem Rest.ints {c : Nat} (h : Rest W o 0 l) (hc : l.length ≤ c) : Ints W (some ⟨o, 0, none⟩) c l :=
  ⟨hc, fun _ => ⟨o, 0, rfl, h.lt, fun i t hi => by rw [Nat.zero_add]; exact h.cell (by omega) hi⟩⟩
end
/-- Numbers as cells. -/
def cellsI (l : List Int) : List Value := l.map (Value.int .i64)
theorem length_cellsI (l : List Int) : (cellsI l).length = l.length := by simp [cellsI]
theorem cellsI_app (x y : List Int) : cellsI (x ++ y) = cellsI x ++ cellsI y := by simp [cellsI]
theorem cellsI_at {l : List Int} {j : Nat} {u : Value} (h : (cellsI l)[j]? = some u) : ∃ t, l[j]? = some t ∧ u = .int .i64 t := by
  simp only [cellsI, List.getElem?_map, Option.map_eq_some_iff] at h
  obtain ⟨n, hn, rfl⟩ := h
  exact ⟨n, hn, rfl⟩
/-- One number is appended to a row of the call's own. -/
theorem append_one {ops : Array Oper} {rest : List Oper} {o : Oper} {a : Act} {Q : Exit → Act → World → Prop} (w : World) (hgd : o.guard = none) (s x : Operand)
    (ho : o.op = .call { callee := .builtin .append, args := #[s, x], argTypes := #[36, 36] })
    (base : Nat) (v : Value) (n : Nat) (xs : List Int) (hs : a.eval s = v) (hown : w.ownsRow base 3 1 v n (cellsI xs))
    (A : Addr) (y : Int) (hx : a.eval x = .slice (some A) 1 1) (hr : Ints w (some A) 1 [y]) (h63 : n + 1 ≤ 4000) (hbase : base ≤ w.heap.size)
    (h : ∀ v' w', w'.ownsRow base 3 1 v' (n + 1) (cellsI (xs ++ [y])) → w.grownBy w' v.ownBlock → wpList Try.prog ops Q rest (a.put o.dst v') w') : wpList Try.prog ops Q (o :: rest) a w := by
  obtain ⟨i, hi, hz, h1, h8⟩ := intInfo
  refine wpList_append_own w hgd s x 36 ho base 3 i (.int .i64 0) 1 8 Try.underlying36 hi hz h1 h8 rfl (by decide) v n (cellsI xs) hs hown A 1 1 (cellsI [y]) hx (by simp [cellsI]) ?_ ?_ (by unfold maxLen; omega) (by omega) hbase ?_
  · intro j u hu
    obtain ⟨t, hj, rfl⟩ := cellsI_at hu
    obtain ⟨b, off, e, _, hcell⟩ := hr.form (by simp)
    cases e
    rw [Addr.add_lit]
    exact hcell j t hj
  · intro u hu
    obtain ⟨_, _, rfl⟩ := List.mem_map.1 hu
    rfl
  · intro v' w' h2 h3 _
    exact h v' w' (by rw [cellsI_app]; exact h2) h3
/-- A literal of one number reads so. -/
theorem one_int (w : World) (x : Int) : Ints (w.alloc (.cells #[.int .i64 x] 3)) (some ⟨w.heap.size, 0, none⟩) 1 [x] := by
  refine ⟨Nat.le_refl _, fun _ => ⟨w.heap.size, 0, rfl, by simp, fun i t hi => ?_⟩⟩
  have hj : i = 0 := by have := (List.getElem?_eq_some_iff.1 hi).1; simp at this; omega
  subst hj
  have : x = t := by simpa using hi
  subst this
  rw [(Lies.made w 3 #[.int .i64 x]).cell]; rfl
/-- What such a row is when it isn't empty. -/
theorem own_rest {w : World} {base : Nat} {v : Value} {n : Nat} {l : List Int} (h : w.ownsRow base 3 1 v n (cellsI l)) (h0 : 0 < n) : ∃ g c, v = .slice (some ⟨g, 0, none⟩) n c ∧ base ≤ g ∧ n ≤ c ∧ Rest w g 0 l := by
  have hl : l.length = n := by have := h.1; rw [length_cellsI] at this; omega
  rcases h.2 with ⟨_, rfl⟩ | ⟨g, cap, cur, rfl, hbb, hg, hnc, _, hcs, ht⟩
  · omega
  · refine ⟨g, cap, rfl, hbb, hnc, cur, hg, by omega, fun i x _ hx => ?_⟩
    have hlt := (List.getElem?_eq_some_iff.1 hx).1
    have : (cellsI l)[i]? = some (.int .i64 x) := by simp [cellsI, hx]
    rw [← ht, List.getElem?_take] at this
    split at this
    · rw [← Array.getElem?_toList]; exact this
    · cases this
theorem own_from {w : World} {base : Nat} {v : Value} {n : Nat} {l : List Value} {e : TypeId} (h : w.ownsRow base e 1 v n l) : ∀ k, v.ownBlock = some k → base ≤ k := by
  intro k hk
  rcases h.2 with ⟨rfl, rfl⟩ | ⟨g, cap, cur, rfl, hbb, _⟩
  · cases hk
  · cases hk; exact hbb
end Go.Proofs.Ytlodfipiodlgdaa
