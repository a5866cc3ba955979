/- A guard beside two rows of the statement's own: what was last, and whether it was. -/
import Derived.Test.YtllihehkceaibaaRo
namespace Go.Proofs.Ytllihehkceaibaa
open Go.RowKit

def lastV (gs : List Gt) (i : Nat) : Int := match gs[i]? with
  | none => 0
  | some x => x.2.1
def wasV (gs : List Gt) (i : Nat) : Bool := match gs[i]? with
  | none => false
  | some x => !decide (x.2.2 = 0)
theorem last_at {gs : List Gt} {i : Nat} {x : Gt} (h : gs[i]? = some x) : lastV gs i = x.2.1 := by unfold lastV; rw [h]
theorem was_at {gs : List Gt} {i : Nat} {x : Gt} (h : gs[i]? = some x) : wasV gs i = !decide (x.2.2 = 0) := by unfold wasV; rw [h]
theorem last_fresh (l : List Int) (i : Nat) : lastV (l.map freshG) i = 0 := by
  unfold lastV
  rw [List.getElem?_map]
  cases l[i]? <;> rfl
theorem was_fresh (l : List Int) (i : Nat) : wasV (l.map freshG) i = false := by
  unfold wasV
  rw [List.getElem?_map]
  cases l[i]? <;> rfl
theorem last_set {gs : List Gt} {j : Nat} {y : Gt} (h : j < gs.length) (i : Nat) : lastV (gs.set j y) i = if i = j then y.2.1 else lastV gs i := by
  unfold lastV
  rw [List.getElem?_set]
  by_cases e : j = i
  · subst e
    rw [if_pos rfl, if_pos h, if_pos rfl]
  · rw [if_neg e, if_neg (fun h => e h.symm)]
theorem was_set {gs : List Gt} {j : Nat} {y : Gt} (h : j < gs.length) (i : Nat) : wasV (gs.set j y) i = if i = j then !decide (y.2.2 = 0) else wasV gs i := by
  unfold wasV
  rw [List.getElem?_set]
  by_cases e : j = i
  · subst e
    rw [if_pos rfl, if_pos h, if_pos rfl]
  · rw [if_neg e, if_neg (fun h => e h.symm)]
/-- The guard; the two rows tell of its gates. -/
structure Ap (w0 : World) (p g K : Nat) (gs : List Gt) (lb wb : Nat) (W : World) : Prop where
  has : Has w0 p g K gs W
  last : Row W lb 3 gs.length (fun i => .int .i64 (lastV gs i))
  was : Row W wb 4 gs.length (fun i => .bool (wasV gs i))
  l0 : w0.heap.size ≤ lb
  w0_ : w0.heap.size ≤ wb
  f0 : lb ≠ wb
  f1 : lb ≠ p
  f2 : lb ≠ g
  f3 : wb ≠ p
  f4 : wb ≠ g
section
variable {w0 W W1 W' : World} {p g K lb wb : Nat} {gs : List Gt}
theorem Ap.tells (h : Ap w0 p g K gs lb wb W) (hb : Below W.heap.size W W') : Ap w0 p g K gs lb wb W' := ⟨h.has.tells hb, h.last.tells hb, h.was.tells hb, h.l0, h.w0_, h.f0, h.f1, h.f2, h.f3, h.f4⟩
theorem Ap.drewN (h : Ap w0 p g K gs lb wb W) (n : Nat) : Ap w0 p g K gs lb wb (W.drewN n) := ⟨h.has.drewN n, h.last, h.was, h.l0, h.w0_, h.f0, h.f1, h.f2, h.f3, h.f4⟩
theorem Ap.more {L : Nat} (h : Ap w0 p g K gs lb wb W) (hk : K ≤ L) : Ap w0 p g L gs lb wb W := ⟨h.has.more hk, h.last, h.was, h.l0, h.w0_, h.f0, h.f1, h.f2, h.f3, h.f4⟩
/-- The guard made a step that changed nothing. -/
theorem Ap.stay {L : Nat} (h : Ap w0 p g K gs lb wb W) (hh : Has w0 p g L gs W') (ht : Turns (fun k => k = g) W W') : Ap w0 p g L gs lb wb W' :=
  ⟨hh, h.last.turns ht h.f2, h.was.turns ht h.f4, h.l0, h.w0_, h.f0, h.f1, h.f2, h.f3, h.f4⟩
/-- A gate was gone through, and the rows are written. -/
theorem Ap.step {L j : Nat} {x : Gt} {t : Int} (h : Ap w0 p g K gs lb wb W) (hj : gs[j]? = some x) (hc : 0 ≤ x.2.2) (hh : Has w0 p g L (gs.set j (pass x t)) W') (ht : Turns (fun k => k = g) W W') :
    Ap w0 p g L (gs.set j (pass x t)) lb wb ((W'.setCell ⟨lb, j, none⟩ (.int .i64 t)).setCell ⟨wb, j, none⟩ (.bool true)) := by
  have hlt := (List.getElem?_eq_some_iff.1 hj).1
  have hl : (gs.set j (pass x t)).length = gs.length := by simp
  refine ⟨hh.turns (S := fun k => k = lb ∨ k = wb) (((Turns.refl (fun k => k = lb ∨ k = wb) _).setCell (a := ⟨lb, j, none⟩) (.inr (.inl rfl)) _).setCell (a := ⟨wb, j, none⟩) (.inr (.inr rfl)) _) (fun k hk => ?_) (fun hk => ?_) (fun hk => ?_), ?_, ?_, h.l0, h.w0_, h.f0, h.f1, h.f2, h.f3, h.f4⟩
  · have h1 := h.l0
    have h2 := h.w0_
    rcases hk with rfl | rfl
    · exact h1
    · exact h2
  · rcases hk with hk | hk
    · exact h.f1 hk.symm
    · exact h.f3 hk.symm
  · rcases hk with hk | hk
    · exact h.f2 hk.symm
    · exact h.f4 hk.symm
  · rw [hl]
    refine ((h.last.turns ht h.f2).set (k := j) (v := .int .i64 t) (fun i hi => ?_)).there h.f0 _
    rw [last_set hlt]
    split <;> rfl
  · rw [hl]
    refine ((h.was.turns ht h.f4).there (fun e => h.f0 e.symm) _).set (k := j) (v := .bool true) (fun i hi => ?_)
    rw [was_set hlt]
    have : decide ((pass x t).2.2 = 0) = false := decide_eq_false (by show ¬ (x.2.2 + 1 = 0); omega)
    split
    · rw [this]; rfl
    · rfl
theorem Ap.made {l : List Int} (h : Has w0 p g 0 (l.map freshG) W) : Ap w0 p g 0 (l.map freshG) W.heap.size (W.heap.size + 1) ((W.alloc (.cells (madeCells #[.int .i64 0] l.length) 3)).alloc (.cells (madeCells #[.bool false] l.length) 4)) := by
  have h1 := h.grd.plt
  have h2 := h.grd.glt
  have h3 := h.below.size
  have b1 := below_new W (.cells (madeCells #[.int .i64 0] l.length) 3)
  have b2 := below_new (W.alloc (.cells (madeCells #[.int .i64 0] l.length) 3)) (.cells (madeCells #[.bool false] l.length) 4)
  have hs : (W.alloc (.cells (madeCells #[.int .i64 0] l.length) 3)).heap.size = W.heap.size + 1 := by simp
  refine ⟨(h.tells b1).tells b2, ?_, ?_, h3, by omega, by omega, by omega, by omega, by omega, by omega⟩
  · rw [List.length_map]
    exact ((Row.made W 3 l.length (.int .i64 0)).tells b2).eq (fun i _ => by rw [last_fresh])
  · rw [List.length_map, ← hs]
    exact (Row.made _ 4 l.length (.bool false)).eq (fun i _ => by rw [was_fresh])
end
/-- An ask that is none. -/
theorem ask_out {y0 y1 : Int} {n : Nat} (h : y0 < 0 ∨ (n : Int) ≤ y0 ∨ y1 < 0 ∨ 1099511627776 < y1) :
    decide (y0 < 0) = true ∨ (decide (y0 < 0) = false ∧ decide ((n : Int) ≤ y0) = true) ∨ (decide (y0 < 0) = false ∧ decide ((n : Int) ≤ y0) = false ∧ decide (y1 < 0) = true) ∨ (decide (y0 < 0) = false ∧ decide ((n : Int) ≤ y0) = false ∧ decide (y1 < 0) = false ∧ decide (1099511627776 < y1) = true) := by
  by_cases h1 : y0 < 0
  · exact .inl (decide_eq_true h1)
  · by_cases h2 : (n : Int) ≤ y0
    · exact .inr (.inl ⟨decide_eq_false h1, decide_eq_true h2⟩)
    · by_cases h3 : y1 < 0
      · exact .inr (.inr (.inl ⟨decide_eq_false h1, decide_eq_false h2, decide_eq_true h3⟩))
      · exact .inr (.inr (.inr ⟨decide_eq_false h1, decide_eq_false h2, decide_eq_false h3, decide_eq_true (by omega)⟩))
end Go.Proofs.Ytllihehkceaibaa
