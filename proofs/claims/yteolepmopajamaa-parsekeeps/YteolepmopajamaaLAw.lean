/- Literals as rows of bytes. -/
import Derived.Test.YteolepmopajamaaLTk
import Derived.OwnWalk
namespace Go.Proofs.Yteolepmopajamaa.Lx
open Go.RowKit

/-- It says yes, and what was there is as it was. -/
def Woke (w : World) (e : Ending) (w' : World) : Prop := e = .returned (.bool true) ∧ Below w.heap.size w w'
/-- Bytes as cells. -/
def bytesV (l : List UInt8) : List Value := l.map fun c => .int .u8 (c.toNat : Int)
theorem bytes_row {w : World} {b cap : Nat} {cs : Array Value} {fr : Nat × Nat} {l : List UInt8} (h : w.heap[b]? = some (.cells cs 5 fr)) (hl : l.length ≤ cap) (hc : ∀ (i : Nat) (c : UInt8), l[i]? = some c → cs[i]? = some (Value.int .u8 (c.toNat : Int))) : Bytes w (some ⟨b, 0, none⟩) cap l :=
  ⟨hl, .inr ⟨b, 0, rfl, lt_of_block h, fun i c hi => by rw [Nat.zero_add, cell_of_row w b i cs 5 fr h]; exact hc i c hi⟩⟩
/-- A literal's row behind its conversion. -/
def litO (l : List UInt8) : Obj := .cells (bytesV l).toArray 5 ((bytesV l).toArray.size, (bytesV l).toArray.size + 1)
theorem bytes_lit (w : World) (l : List UInt8) : Bytes (w.alloc (litO l)) (some ⟨w.heap.size, 0, none⟩) l.length l :=
  bytes_row (heap_alloc_new w _) (Nat.le_refl _) (fun i c hi => by simp [bytesV, hi])
theorem conv_lit (w : World) (cs : Array Value) (n c : Nat) : (convert 22 22 (.slice (some ⟨w.heap.size, 0, none⟩) n c)).run Try.prog (w.alloc (.cells cs 5)) = .ok (.slice (some ⟨w.heap.size, 0, none⟩) n c) (w.alloc (.cells cs 5 (cs.size, cs.size + 1))) := by
  have hsh : (w.alloc (.cells cs 5)).shape? w.heap.size = some (5, cs.size) := by
    simp [World.shape?, World.alloc, -World.alloc_eq]
  have hfr : (w.alloc (.cells cs 5)).freeze ⟨w.heap.size, cs.size, none⟩ 1 = w.alloc (.cells cs 5 (cs.size, cs.size + 1)) := by
    have hm : ∀ F : Obj → Obj, (w.heap.push (.cells cs 5)).modify w.heap.size F = w.heap.push (F (.cells cs 5)) := fun F => by
      apply Array.ext_getElem?
      intro i
      rw [Array.getElem?_modify, Array.getElem?_push, Array.getElem?_push]
      by_cases h : w.heap.size = i
      · simp [h]
      · rw [if_neg h, if_neg (Ne.symm h), if_neg (Ne.symm h)]
    unfold World.freeze
    rw [if_neg (by decide)]
    show ({ w.alloc (.cells cs 5) with heap := (w.heap.push (.cells cs 5)).modify w.heap.size _ } : World) = _
    rw [hm]
    rfl
  simp [convert, run_underlying Try.underlying22, run_underlying Try.underlying5, markStringish, hsh]
  exact hfr
end Go.Proofs.Yteolepmopajamaa.Lx
