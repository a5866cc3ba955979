/- Rows of numbers: those that come in, opened; those of the call's own. -/
import Derived.Test.YtklnokhabomnfaaOp
import Derived.Test.YtklnokhabomnfaaLt
import Derived.Test.YtklnokhabomnfaaBr
import Derived.Test.YtklnokhabomnfaaWf
import Derived.ProofKit
import Derived.OpenShut
import Derived.BigQuiet
import Derived.IntWalk
import Derived.Deep.Slices
import Derived.Deep.Fields
import Derived.Lib.SmallJoins
import Derived.Laws.Rows
import Derived.Laws.MakeOwn
import Derived.Laws.AppendOwnNone
import Derived.OwnWalk
namespace Go.Proofs.Ytklnokhabomnfaa
open Go.ChangeShapes Go.WideShapes Go.RowKit

/-- A slice that begins at a, with room for cap, reads as the numbers l. -/
structure Ints (w : World) (a : Option Addr) (cap : Nat) (l : List Int) : Prop where
  le : l.length ≤ cap
  nil : a = none → cap = 0
  form : 0 < l.length → ∃ b off, a = some ⟨b, off, none⟩ ∧ b < w.heap.size ∧ ∀ i t, l[i]? = some t → w.cell? ⟨b, off + i, none⟩ = some (.int .i64 t)
section
variable {w w' : World} {a : Option Addr} {cap B : Nat} {l : List Int}
theorem Ints.below (h : Ints w a cap l) (hB : w.heap.size ≤ B) (hb : Below B w w') : Ints w' a cap l := by
  refine ⟨h.le, h.nil, fun h0 => ?_⟩
  obtain ⟨b, off, ha, hlt, hc⟩ := h.form h0
  refine ⟨b, off, ha, Nat.lt_of_lt_of_le hlt hb.size, fun i t hi => ?_⟩
  rw [hb.cell (p := ⟨b, off + i, none⟩) (Nat.lt_of_lt_of_le hlt hB)]; exact hc i t hi
theorem Ints.tells (h : Ints w a cap l) (hb : Below w.heap.size w w') : Ints w' a cap l := h.below (Nat.le_refl _) hb
theorem Ints.drewN (h : Ints w a cap l) (n : Nat) : Ints (w.drewN n) a cap l := ⟨h.le, h.nil, h.form⟩
theorem Ints.alloc (h : Ints w a cap l) (o : Obj) : Ints (w.alloc o) a cap l := h.tells (below_new w o)
/-- A place's cell, in every world behind. -/
theorem Ints.at_ (h : Ints w a cap l) {i : Nat} {t : Int} (hi : l[i]? = some t) : ∃ b off, a = some ⟨b, off, none⟩ ∧ b < w.heap.size ∧ ∀ W, Below w.heap.size w W → W.cell? ⟨b, off + i, none⟩ = some (.int .i64 t) := by
  have hlt := (List.getElem?_eq_some_iff.1 hi).1
  obtain ⟨b, off, ha, hb, hc⟩ := h.form (by omega)
  refine ⟨b, off, ha, hb, fun W hW => ?_⟩
  rw [hW.cell (p := ⟨b, off + i, none⟩) hb]; exact hc i t hi
theorem Ints.take (h : Ints w a cap l) (k : Nat) : Ints w a cap (l.take k) := by
  refine ⟨Nat.le_trans (by rw [List.length_take]; omega) h.le, h.nil, fun h0 => ?_⟩
  rw [List.length_take] at h0
  obtain ⟨b, off, e, hb, hc⟩ := h.form (by omega)
  refine ⟨b, off, e, hb, fun i t hi => hc i t ?_⟩
  rw [List.getElem?_take] at hi
  split at hi
  · exact hi
  · cases hi
theorem intInfo' : ((Try.prog.info? 3).map fun i => (i.zero, i.size, i.bytes)) = some (some (.int .i64 0), 1, 8) := by kernel_rfl
theorem intInfo : ∃ i, Try.prog.info? 3 = some i ∧ i.zero = some (.int .i64 0) ∧ i.size = 1 ∧ i.bytes = 8 := by
  obtain ⟨i, hi, h⟩ := Option.map_eq_some_iff.1 intInfo'
  simp only [Prod.mk.injEq] at h
  exact ⟨i, hi, h.1, h.2.1, h.2.2⟩
/-- Numbers as cells. -/
def cellsI (l : List Int) : List Value := l.map (Value.int .i64)
theorem length_cellsI (l : List Int) : (cellsI l).length = l.length := by simp [cellsI]
theorem cellsI_app (x y : List Int) : cellsI (x ++ y) = cellsI x ++ cellsI y := by simp [cellsI]
theorem cellsI_at {l : List Int} {j : Nat} {u : Value} (h : (cellsI l)[j]? = some u) : ∃ t, l[j]? = some t ∧ u = .int .i64 t := by
  simp only [cellsI, List.getElem?_map, Option.map_eq_some_iff] at h
  obtain ⟨n, hn, rfl⟩ := h
  exact ⟨n, hn, rfl⟩
/-- Numbers are appended to a row of the call's own. -/
theorem append_ints {ops : Array Oper} {rest : List Oper} {o : Oper} {a : Act} {Q : Exit → Act → World → Prop} (w : World) (hgd : o.guard = none) (s x : Operand)
    (ho : o.op = .call { callee := .builtin .append, args := #[s, x], argTypes := #[27, 27] })
    (base : Nat) (v : Value) (n : Nat) (xs : List Int) (hs : a.eval s = v) (hown : w.ownsRow base 3 1 v n (cellsI xs))
    (A : Option Addr) (m c : Nat) (l : List Int) (hx : a.eval x = .slice A m c) (hm : l.length = m) (hr : Ints w A c l) (h63 : n + m ≤ 4000) (hbase : base ≤ w.heap.size)
    (h : ∀ v' w', w'.ownsRow base 3 1 v' (n + m) (cellsI (xs ++ l)) → w.grownBy w' v.ownBlock → wpList Try.prog ops Q rest (a.put o.dst v') w') : wpList Try.prog ops Q (o :: rest) a w := by
  obtain ⟨i, hi, hz, h1, h8⟩ := intInfo
  rcases A with _ | ad
  · obtain rfl := hr.nil rfl
    obtain rfl : l = [] := List.eq_nil_of_length_eq_zero (by have := hr.le; omega)
    obtain rfl : m = 0 := by rw [← hm]; rfl
    refine wpList_append_own_none hgd s x 27 ho base 3 i 1 Try.underlying27 hi v n (cellsI xs) hs hown hx ?_
    have := h v w (by simpa using hown) ⟨rfl, rfl, rfl, Nat.le_refl _, fun _ _ _ => rfl⟩
    exact this
  · refine wpList_append_own w hgd s x 27 ho base 3 i (.int .i64 0) 1 8 Try.underlying27 hi hz h1 h8 rfl (by decide) v n (cellsI xs) hs hown ad m c (cellsI l) hx (by rw [length_cellsI]; omega) ?_ ?_ (by unfold maxLen; omega) (by omega) hbase ?_
    · intro j u hu
      obtain ⟨t, hj, rfl⟩ := cellsI_at hu
      have hlt := (List.getElem?_eq_some_iff.1 hj).1
      obtain ⟨b, off, e, _, hcell⟩ := hr.form (by omega)
      cases e
      rw [Addr.add_lit]
      exact hcell j t hj
    · intro u hu
      obtain ⟨_, _, rfl⟩ := List.mem_map.1 hu
      rfl
    · intro v' w' h2 h3 _
      exact h v' w' (by rw [cellsI_app]; exact h2) h3
/-- A literal of numbers reads so. -/
theorem lit_ints (w : World) (l : List Int) : Ints (w.alloc (.cells (cellsI l).toArray 3)) (some ⟨w.heap.size, 0, none⟩) l.length l := by
  refine ⟨Nat.le_refl _, (fun h => by cases h), fun _ => ⟨w.heap.size, 0, rfl, by simp, fun i t hi => ?_⟩⟩
  rw [(Lies.made w 3 (cellsI l).toArray).cell, Nat.zero_add]
  simp [cellsI, hi]
theorem one_int (w : World) (x : Int) : Ints (w.alloc (.cells #[.int .i64 x] 3)) (some ⟨w.heap.size, 0, none⟩) 1 [x] := lit_ints w [x]
/-- What a row of the call's own reads as. -/
theorem own_ints {w : World} {base : Nat} {v : Value} {n : Nat} {l : List Int} (h : w.ownsRow base 3 1 v n (cellsI l)) : l.length = n ∧ ∃ A c, v = .slice A n c ∧ Ints w A c l := by
  have hl : l.length = n := by have := h.1; rw [length_cellsI] at this; omega
  refine ⟨hl, ?_⟩
  rcases h.2 with ⟨rfl, rfl⟩ | ⟨g, cap, cur, rfl, _, hg, hnc, _, hcs, ht⟩
  · exact ⟨none, 0, rfl, by omega, fun _ => rfl, fun h0 => by omega⟩
  · refine ⟨_, cap, rfl, by omega, (fun h => by cases h), fun h0 => ⟨g, 0, rfl, Lies.lt (t := 3) (cs := cur) hg, fun i t hi => ?_⟩⟩
    have hk := h.cells (g := g) rfl i (.int .i64 t) (by simp [cellsI, hi])
    rw [Addr.add_lit] at hk
    exact hk
theorem own_from {w : World} {base : Nat} {v : Value} {n : Nat} {l : List Value} {e : TypeId} (h : w.ownsRow base e 1 v n l) : ∀ k, v.ownBlock = some k → base ≤ k := by
  intro k hk
  rcases h.2 with ⟨rfl, rfl⟩ | ⟨g, cap, cur, rfl, hbb, _⟩
  · cases hk
  · cases hk; exact hbb
/-- It answers these numbers in a row of its own; what was there is as it was. -/
def NewInts (l : List Int) (w : World) (e : Ending) (w' : World) : Prop := ∃ v, e = .returned v ∧ w'.ownsRow w.heap.size 3 1 v l.length (cellsI l) ∧ Below w.heap.size w w'
end

section
variable {H : Type} {enc : TypeId × Value → H} {W : World}
theorem ints_of {fuel : Nat} {v : Value} {y : DataW H × List MemPlace} (h : DataW.trod enc Try.prog W 0 (fun _ => true) true fuel 27 [v] = some y) : ∃ a len cap, v = .slice a len cap ∧ ∃ l : List Int, l.length = len ∧ len ≤ maxLen ∧ Ints W a cap l := by
  rcases Go.Deep.open_slice Try.underlying27 h with ⟨hcs, _⟩ | ⟨x, len, cap, m, n, D, Pl, hcs, _, hl, hm, hmm, _, hi⟩
  · have : v = .slice none 0 0 := by simpa using hcs
    exact ⟨none, 0, 0, this, [], rfl, Nat.zero_le _, Nat.le_refl _, fun _ => rfl, fun h => by cases h⟩
  · have hv : v = .slice (some x) len cap := by simpa using hcs
    have hm' : m = cap := by simpa using hmm
    subst hm'
    have each : ∀ i, i < m → ∃ t : Int, W.cell? (x.add i) = some (.int .i64 t) := by
      intro i him
      obtain ⟨cs', hc, ht⟩ := hi i him
      obtain ⟨t, htt, _⟩ := DataW.trod_int Try.underlying3 ht
      rw [cells3] at hc
      obtain ⟨_, hcl, hat⟩ := World.cells?_some hc
      have h1 := hat 0 (by omega)
      rw [htt] at h1
      refine ⟨t, ?_⟩
      simpa [Go.Deep.add_add] using h1
    obtain ⟨q, hq⟩ := @Go.Deep.choose_lt Int ⟨0⟩ _ _ each
    refine ⟨some x, len, m, hv, (List.range len).map q, by simp, by omega, by simp; exact hl, (fun h => by cases h), fun h0 => ?_⟩
    have hpos : 0 < m := by simp at h0; omega
    obtain ⟨b, off, spot⟩ := x
    have hc0 := hq 0 hpos
    have hspot : spot = none := by simpa [Addr.add] using World.cell?_spot hc0
    subst hspot
    refine ⟨b, off, rfl, by have := block_lt_of_cell hc0; simpa [Addr.add] using this, fun i u hu => ?_⟩
    have hi : i < len := by have := (List.getElem?_eq_some_iff.1 hu).1; simpa using this
    have hqu : q i = u := by simpa [hi] using hu
    have := hq i (by omega)
    rw [Addr.add_lit, hqu] at this
    exact this
theorem ints_in {a : Option Addr} {len cap : Nat} {d : DataW H} {p : List MemPlace} (h : DataW.Trod enc Try.prog W 0 (fun _ => true) true 27 (.slice a len cap) d p) : ∃ l : List Int, l.length = len ∧ len ≤ maxLen ∧ Ints W a cap l := by
  obtain ⟨fuel, hf⟩ := h
  obtain ⟨a', len', cap', e, l, h1, h2, h3⟩ := ints_of hf
  cases e
  exact ⟨l, h1, h2, h3⟩
end
end Go.Proofs.Ytklnokhabomnfaa
