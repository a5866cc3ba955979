/- Tasks as they lie in a block of their own. -/
import Derived.Test.YtklnokhabomnfaaMk
namespace Go.Proofs.Ytklnokhabomnfaa
open Go.RowKit

/-- It says yes, and what was there is as it was. -/
def Woke (w : World) (e : Ending) (w' : World) : Prop := e = .returned (.bool true) ∧ Below w.heap.size w w'
/-- Tasks as cells. -/
def flatK : List Tk → List Value
  | [] => []
  | t :: l => cellsK t ++ flatK l
theorem length_flatK : ∀ l, (flatK l).length = l.length * 11
  | [] => rfl
  | t :: l => by simp [flatK, cellsK, length_flatK l]; omega
theorem flatK_append : ∀ a b, flatK (a ++ b) = flatK a ++ flatK b
  | [], _ => rfl
  | t :: a, b => by simp [flatK, flatK_append a b]
theorem flatK_at : ∀ {l : List Tk} {i : Nat} {t : Tk} (j : Nat) (v : Value), l[i]? = some t → (cellsK t)[j]? = some v → (flatK l)[i * 11 + j]? = some v
  | [], i, t, j, v, h, _ => by simp at h
  | q :: l, 0, t, j, v, h, hj => by
    have : q = t := by simpa using h
    subst this
    have hlt : j < (cellsK q).length := (List.getElem?_eq_some_iff.1 hj).1
    rw [flatK, Nat.zero_mul, Nat.zero_add, List.getElem?_append_left hlt]; exact hj
  | q :: l, i + 1, t, j, v, h, hj => by
    rw [flatK, List.getElem?_append_right (by simp [cellsK]; omega), show (i + 1) * 11 + j - (cellsK q).length = i * 11 + j by simp [cellsK]; omega]
    exact flatK_at j v (by simpa using h) hj
theorem tasks_row {w : World} {b cap : Nat} {l : List Tk} {cs : Array Value} (h : Lies w b 39 cs) (hs : cs.toList = flatK l) (hc : l.length ≤ cap) : Tasks w (some ⟨b, 0, none⟩) cap l :=
  ⟨hc, fun _ => ⟨b, 0, rfl, h.lt, fun i t hi j v hj => by
    rw [h.cell, Nat.zero_add, ← Array.getElem?_toList, hs]; exact flatK_at j v hi hj⟩⟩
theorem tasks_none (w : World) (a : Option Addr) (cap : Nat) : Tasks w a cap [] := ⟨Nat.zero_le _, fun h => by cases h⟩
end Go.Proofs.Ytklnokhabomnfaa
