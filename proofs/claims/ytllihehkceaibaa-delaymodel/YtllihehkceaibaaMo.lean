/- A guard beside two rows of the statement's own: from when on each gate is open, and how often it was gone through. -/
import Derived.Test.YtllihehkceaibaaAp
namespace Go.Proofs.Ytllihehkceaibaa
open Go.RowKit

theorem openV_set {gs : List Gt} {j : Nat} {y : Gt} (h : j < gs.length) (i : Nat) : openV (gs.set j y) (i : Int) = if i = j then openG y else openV gs (i : Int) := by
  unfold openV
  rw [gateAt_nat, gateAt_nat, List.getElem?_set]
  by_cases e : j = i
  · subst e
    rw [if_pos rfl, if_pos h, if_pos rfl]
  · rw [if_neg e, if_neg (fun h => e h.symm)]
theorem countV_set {gs : List Gt} {j : Nat} {y : Gt} (h : j < gs.length) (i : Nat) : countV (gs.set j y) (i : Int) = if i = j then y.2.2 else countV gs (i : Int) := by
  unfold countV
  rw [gateAt_nat, gateAt_nat, List.getElem?_set]
  by_cases e : j = i
  · subst e
    rw [if_pos rfl, if_pos h, if_pos rfl]
  · rw [if_neg e, if_neg (fun h => e h.symm)]
theorem open_fresh (l : List Int) (i : Nat) : openV (l.map freshG) (i : Int) = 0 ∧ countV (l.map freshG) (i : Int) = 0 := by
  unfold openV countV
  rw [gateAt_nat, List.getElem?_map]
  cases l[i]? <;> exact ⟨rfl, rfl⟩
/-- The guard has the gates gs; the two rows tell of the gates hs. -/
structure Mo (w0 : World) (p g K : Nat) (gs hs : List Gt) (ob cb : Nat) (W : World) : Prop where
  has : Has w0 p g K gs W
  op : Row W ob 3 gs.length (fun i => .int .i64 (openV hs (i : Int)))
  ct : Row W cb 3 gs.length (fun i => .int .i64 (countV hs (i : Int)))
  o0 : w0.heap.size ≤ ob
  c0 : w0.heap.size ≤ cb
  f0 : ob ≠ cb
  f1 : ob ≠ p
  f2 : ob ≠ g
  f3 : cb ≠ p
  f4 : cb ≠ g
section
variable {w0 W W' : World} {p g K L ob cb : Nat} {gs hs hs' : List Gt}
theorem Mo.tells (h : Mo w0 p g K gs hs ob cb W) (hb : Below W.heap.size W W') : Mo w0 p g K gs hs ob cb W' := ⟨h.has.tells hb, h.op.tells hb, h.ct.tells hb, h.o0, h.c0, h.f0, h.f1, h.f2, h.f3, h.f4⟩
theorem Mo.drewN (h : Mo w0 p g K gs hs ob cb W) (n : Nat) : Mo w0 p g K gs hs ob cb (W.drewN n) := ⟨h.has.drewN n, h.op, h.ct, h.o0, h.c0, h.f0, h.f1, h.f2, h.f3, h.f4⟩
theorem Mo.go (h : Mo w0 p g K gs hs ob cb W) (hl : hs.length = gs.length) (hh : Has w0 p g L hs W') (ht : Turns (fun k => k = g) W W') : Mo w0 p g L hs hs ob cb W' :=
  ⟨hh, hl ▸ h.op.turns ht h.f2, hl ▸ h.ct.turns ht h.f4, h.o0, h.c0, h.f0, h.f1, h.f2, h.f3, h.f4⟩
/-- The first row is written. -/
theorem Mo.store1 {j : Nat} {v : Int} (h : Mo w0 p g K gs hs ob cb W) :
    Has w0 p g K gs (W.setCell ⟨ob, j, none⟩ (.int .i64 v)) ∧ Row (W.setCell ⟨ob, j, none⟩ (.int .i64 v)) cb 3 gs.length (fun i => .int .i64 (countV hs (i : Int))) := by
  have h1 := h.o0
  exact ⟨h.has.turns (S := fun k => k = ob) ((Turns.refl (fun k => k = ob) _).setCell (a := ⟨ob, j, none⟩) (.inr rfl) _) (fun k hk => by omega) (fun e => h.f1 e.symm) (fun e => h.f2 e.symm), h.ct.there (fun e => h.f0 e.symm) _⟩
/-- Both rows are written. -/
theorem Mo.store2 {j : Nat} {v c : Int} (h : Mo w0 p g K gs hs ob cb W) (h1 : ∀ i, i < gs.length → openV hs' (i : Int) = if i = j then v else openV hs (i : Int)) (h2 : ∀ i, i < gs.length → countV hs' (i : Int) = if i = j then c else countV hs (i : Int)) :
    Mo w0 p g K gs hs' ob cb ((W.setCell ⟨ob, j, none⟩ (.int .i64 v)).setCell ⟨cb, j, none⟩ (.int .i64 c)) := by
  refine ⟨h.has.turns (S := fun k => k = ob ∨ k = cb) (((Turns.refl (fun k => k = ob ∨ k = cb) _).setCell (a := ⟨ob, j, none⟩) (.inr (.inl rfl)) _).setCell (a := ⟨cb, j, none⟩) (.inr (.inr rfl)) _) (fun k hk => ?_) (fun hk => ?_) (fun hk => ?_), ?_, ?_, h.o0, h.c0, h.f0, h.f1, h.f2, h.f3, h.f4⟩
  · have h1 := h.o0
    have h2 := h.c0
    rcases hk with rfl | rfl
    · exact h1
    · exact h2
  · rcases hk with hk | hk
    · exact h.f1 hk.symm
    · exact h.f3 hk.symm
  · rcases hk with hk | hk
    · exact h.f2 hk.symm
    · exact h.f4 hk.symm
  · refine (h.op.set (k := j) (v := .int .i64 v) (fun i hi => ?_)).there h.f0 _
    rw [h1 i hi]
    split <;> rfl
  · refine (h.ct.there (fun e => h.f0 e.symm) _).set (k := j) (v := .int .i64 c) (fun i hi => ?_)
    rw [h2 i hi]
    split <;> rfl
theorem Mo.made {l : List Int} (h : Has w0 p g 0 (l.map freshG) W) : Mo w0 p g 0 (l.map freshG) (l.map freshG) W.heap.size (W.heap.size + 1) ((W.alloc (.cells (madeCells #[.int .i64 0] l.length) 3)).alloc (.cells (madeCells #[.int .i64 0] l.length) 3)) := by
  have h1 := h.grd.plt
  have h2 := h.grd.glt
  have h3 := h.below.size
  have b1 := below_new W (.cells (madeCells #[.int .i64 0] l.length) 3)
  have b2 := below_new (W.alloc (.cells (madeCells #[.int .i64 0] l.length) 3)) (.cells (madeCells #[.int .i64 0] l.length) 3)
  have hs : (W.alloc (.cells (madeCells #[.int .i64 0] l.length) 3)).heap.size = W.heap.size + 1 := by simp
  refine ⟨(h.tells b1).tells b2, ?_, ?_, h3, by omega, by omega, by omega, by omega, by omega, by omega⟩
  · rw [List.length_map]
    exact ((Row.made W 3 l.length (.int .i64 0)).tells b2).eq (fun i _ => by rw [(open_fresh l i).1])
  · rw [List.length_map, ← hs]
    exact (Row.made _ 3 l.length (.int .i64 0)).eq (fun i _ => by rw [(open_fresh l i).2])
end
end Go.Proofs.Ytllihehkceaibaa
