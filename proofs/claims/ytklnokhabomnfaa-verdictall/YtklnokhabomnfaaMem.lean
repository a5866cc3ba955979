/- Words for memory: blocks that are known whole, and what of a world has turned. -/
import Derived.Test.YtklnokhabomnfaaRows
import Derived.WalkKit
import Derived.Below
import Derived.Lib.Hide
import Derived.BigQuiet
import Derived.Deep.QuietTactic
import Derived.Deep.Draws
import Derived.Laws.Rows
import Derived.Laws.MakeOwn
namespace Go.Proofs.Ytklnokhabomnfaa
open Go.RowKit

/-- Block b is just these cells; none of them is frozen. -/
def Lies (w : World) (b : Nat) (t : TypeId) (cs : Array Value) : Prop := w.heap[b]? = some (.cells cs t (0, 0))

/-- Of what was there only blocks of S have turned. -/
structure Turns (S : Nat → Prop) (w w' : World) : Prop where
  os : w'.os = w.os
  tape : w'.tape = w.tape
  output : w'.output = w.output
  size : w.heap.size ≤ w'.heap.size
  block : ∀ k, k < w.heap.size → ¬ S k → w'.heap[k]? = w.heap[k]?

section
variable {w w' w'' : World} {b : Nat} {S S' : Nat → Prop} {t : TypeId} {cs : Array Value}
theorem Lies.lt (h : Lies w b t cs) : b < w.heap.size := by
  unfold Lies at h
  rcases Nat.lt_or_ge b w.heap.size with hlt | hge
  · exact hlt
  · rw [Array.getElem?_eq_none hge] at h; cases h
theorem Lies.cell (h : Lies w b t cs) (i : Nat) : w.cell? ⟨b, i, none⟩ = cs[i]? := cell_of_row w b i cs t (0, 0) h
theorem Lies.thawed (h : Lies w b t cs) (i : Nat) : w.frozen? ⟨b, i, none⟩ = false := by
  unfold Lies at h; simp [World.frozen?, h]
theorem Lies.drewN (h : Lies w b t cs) (n : Nat) : Lies (w.drewN n) b t cs := h
theorem Lies.made (w : World) (t : TypeId) (cs : Array Value) : Lies (w.alloc (.cells cs t)) w.heap.size t cs := heap_alloc_new w _
theorem Lies.alloc (h : Lies w b t cs) (o : Obj) : Lies (w.alloc o) b t cs := by
  unfold Lies; rw [Below.heap_alloc w o b h.lt]; exact h
theorem Lies.here (h : Lies w b t cs) (i : Nat) (u : Value) : Lies (w.setCell ⟨b, i, none⟩ u) b t (cs.setIfInBounds i u) := by
  unfold Lies at h ⊢; simp [World.setCell, Array.getElem?_modify, h]
theorem Lies.there (h : Lies w b t cs) {a : Addr} (ha : b ≠ a.block) (u : Value) : Lies (w.setCell a u) b t cs := by
  unfold Lies; rw [Below.heap_setCell w a u b ha]; exact h
theorem Lies.below {B : Nat} (h : Lies w b t cs) (hb : Below B w w') (hB : b < B) : Lies w' b t cs := by
  unfold Lies; rw [hb.block b hB]; exact h
theorem Lies.turns (h : Lies w b t cs) (ht : Turns S w w') (hb : ¬ S b) : Lies w' b t cs := by
  unfold Lies; rw [ht.block b h.lt hb]; exact h

theorem Turns.refl (S : Nat → Prop) (w : World) : Turns S w w := ⟨rfl, rfl, rfl, Nat.le_refl _, fun _ _ _ => rfl⟩
theorem Turns.trans (h : Turns S w w') (k : Turns S' w' w'') (hS : ∀ i, i < w.heap.size → S' i → S i) : Turns S w w'' :=
  ⟨k.os.trans h.os, k.tape.trans h.tape, k.output.trans h.output, Nat.le_trans h.size k.size,
   fun i hi h1 => (k.block i (Nat.lt_of_lt_of_le hi h.size) (fun h2 => h1 (hS i hi h2))).trans (h.block i hi h1)⟩
theorem Turns.drewN (h : Turns S w w') (n : Nat) : Turns S w (w'.drewN n) := ⟨h.os, h.tape, h.output, h.size, h.block⟩
theorem Turns.setCell (h : Turns S w w') {a : Addr} (ha : w.heap.size ≤ a.block ∨ S a.block) (u : Value) : Turns S w (w'.setCell a u) :=
  ⟨h.os, h.tape, h.output, by simpa [World.setCell] using h.size, fun i hi h1 => (Below.heap_setCell w' a u i (fun e' => by rcases ha with e | e <;> first | omega | exact h1 (by rw [e']; exact e))).trans (h.block i hi h1)⟩
theorem Turns.below {B : Nat} (h : Turns S w w') (hS : ∀ k, S k → B ≤ k) (hB : B ≤ w.heap.size) : Below B w w' :=
  ⟨h.os, h.tape, h.output, h.size, fun k hk => h.block k (by omega) (fun hk' => by have := hS k hk'; omega)⟩
theorem Turns.of_below (h : Below w.heap.size w w') : Turns S w w' := ⟨h.os, h.tape, h.output, h.size, fun k hk _ => h.block k hk⟩
theorem Turns.more (h : Turns S w w') (hS : ∀ k, k < w.heap.size → S k → S' k) : Turns S' w w' := ⟨h.os, h.tape, h.output, h.size, fun k hk h1 => h.block k hk (fun h2 => h1 (hS k hk h2))⟩
theorem below_drewN {B : Nat} (h : Below B w w') (n : Nat) : Below B w (w'.drewN n) := ⟨h.os, h.tape, h.output, h.size, h.block⟩
end

/-- It answers v; some draws were made, nothing else. -/
def Saw (v : Value) (w : World) (e : Ending) (w' : World) : Prop := e = .returned v ∧ ∃ m, w' = w.drewN m
/-- It answers v; the world stands. -/
def Says (v : Value) (w : World) (e : Ending) (w' : World) : Prop := e = .returned v ∧ w = w'
theorem ret_int {k : IntKind} {a b : Int} (h : a = b) : Ending.returned (.int k a) = .returned (.int k b) := by rw [h]
end Go.Proofs.Ytklnokhabomnfaa
