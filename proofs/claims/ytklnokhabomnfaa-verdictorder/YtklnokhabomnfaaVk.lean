/- Numbers copied into a row of the call's own. -/
import Derived.Test.YtklnokhabomnfaaVg
namespace Go.Proofs.Ytklnokhabomnfaa
open Go.RowKit

theorem own_lit0 (w : World) : (w.alloc (.cells #[] 3)).ownsRow w.heap.size 3 1 (.slice (some ⟨w.heap.size, 0, none⟩) 0 0) 0 (cellsI []) := World.ownsRow_lit w #[] 0 (Nat.le_refl _) (by unfold maxLen; omega) rfl
/-- A slice that reads as these numbers, in memory that was made behind B. -/
structure Newer (B : Nat) (v : Value) (n : Nat) (R : List Int) (A : Option Addr) (c : Nat) (W : World) : Prop where
  is : v = .slice A n c
  ints : Ints W A c R
  far : ∀ x, A = some x → B ≤ x.block
theorem own_behind {w w' : World} {v : Value} {n : Nat} {R : List Int} (ho : w'.ownsRow w.heap.size 3 1 v (0 + n) (cellsI ([] ++ R))) (hg : (w.alloc (.cells #[] 3)).grownBy w' (Value.slice (some ⟨w.heap.size, 0, none⟩) 0 0).ownBlock) :
    Below w.heap.size w w' ∧ ∃ A c, Newer w.heap.size v n R A c w' := by
  have hb : Below w.heap.size w w' := Below.grown (below_new w (.cells #[] 3)) hg (by simp) (fun k hk => by
    have : w.heap.size = k := by simpa [Value.ownBlock] using hk
    omega)
  rw [Nat.zero_add, List.nil_append] at ho
  obtain ⟨hl, A, c, rfl, hI⟩ := own_ints ho
  exact ⟨hb, A, c, rfl, hI, fun x hx => own_from ho x.block (by subst hx; rfl)⟩
theorem Newer.put {B n c : Nat} {v : Value} {R : List Int} {A : Option Addr} {W : World} (h : Newer B v n R A c W) {p : Addr} (hp : p.block < B) (u : Value) : Newer B v n R A c (W.setCell p u) := by
  refine ⟨h.is, ⟨h.ints.le, h.ints.nil, fun h0 => ?_⟩, h.far⟩
  obtain ⟨b, off, ha, hlt, hc⟩ := h.ints.form h0
  have := h.far _ ha
  dsimp only at this
  refine ⟨b, off, ha, by simpa [World.setCell] using hlt, fun i t hi => ?_⟩
  rw [World.cell?_setCell_far W p ⟨b, off + i, none⟩ u (fun e => by dsimp only at e; omega)]
  exact hc i t hi
theorem Newer.tells {B n c : Nat} {v : Value} {R : List Int} {A : Option Addr} {W W' : World} (h : Newer B v n R A c W) (hb : Below W.heap.size W W') : Newer B v n R A c W' := ⟨h.is, h.ints.tells hb, h.far⟩
end Go.Proofs.Ytklnokhabomnfaa
