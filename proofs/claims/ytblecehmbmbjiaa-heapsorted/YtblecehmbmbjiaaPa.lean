/- Keys pushed one behind the other, whichever. -/
import Derived.Test.YtblecehmbmbjiaaAw
namespace Go.Proofs.Ytblecehmbmbjiaa
open Go.RowKit

/-- What a heap with room has behind a push; what it answers. -/
def pushS (m : List Ky) (k : Ky) : List Ky := if idK k ∈ m.map idK then m else putK m k
def pushV (m : List Ky) (k : Ky) : Int := if idK k ∈ m.map idK then 7 else 0
theorem length_pushS (m : List Ky) (k : Ky) : (pushS m k).length ≤ m.length + 1 := by
  unfold pushS
  split
  · omega
  · rw [length_put]; omega
section
variable {w0 W W' : World} {p room : Nat} {m : List Ky}
theorem has_push_any (k : Ky) (hf : m.length < room) (h : Has w0 p room m W) : Calls Try.prog 13 #[.pointer (some ⟨p, 0, none⟩), aggQ k] W (Then (.int .i64 (pushV m k)) w0 p room (pushS m k) W) := by
  by_cases hid : idK k ∈ m.map idK
  · rw [pushV, pushS, if_pos hid, if_pos hid]
    exact has_push_twice k hid h
  · rw [pushV, pushS, if_neg hid, if_neg hid]
    exact has_push k hid hf h
end
end Go.Proofs.Ytblecehmbmbjiaa
