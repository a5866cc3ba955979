/- Entries added one behind the other, whichever. -/
import Derived.Test.YtngoclkhhfcjjaaAw
namespace Go.Proofs.Ytngoclkhhfcjjaa
open Go.RowKit

/-- What a wheel with room has behind an Add; what it answers. -/
def addS (now : Int) (m : List Ky) (d : Ky) : List Ky := if d.1 < now ∨ 1099511627776 < d.1 then m else if idK d ∈ m.map idK then m else putK m d
def addV (now : Int) (m : List Ky) (d : Ky) : Int := if d.1 < now ∨ 1099511627776 < d.1 then 1 else if idK d ∈ m.map idK then 7 else 0
theorem length_addS (now : Int) (m : List Ky) (d : Ky) : (addS now m d).length ≤ m.length + 1 := by
  unfold addS
  split
  · omega
  · split
    · omega
    · rw [length_put]; omega
theorem due_all {l : List Ky} {t : Int} (h : ∀ d ∈ l, d.1 ≤ t) : due l t = l := List.filter_eq_self.2 fun d hd => by simpa using h d hd
section
variable {w0 W : World} {S : Nat → Prop} {p room : Nat} {now : Int} {m : List Ky}
theorem has_add_any (d : Ky) (hf : m.length < room) (h : Has w0 S p room now m W) : Calls Try.prog 11 #[.pointer (some ⟨p, 0, none⟩), aggQ d] W (Then (.int .i64 (addV now m d)) w0 S p room now (addS now m d) W) := by
  unfold addV addS
  by_cases ha : d.1 < now ∨ 1099511627776 < d.1
  · rw [if_pos ha, if_pos ha]
    exact has_add_arg d ha h
  · rw [if_neg ha, if_neg ha]
    by_cases hid : idK d ∈ m.map idK
    · rw [if_pos hid, if_pos hid]
      exact has_add_twice d (by omega) (by omega) hid h
    · rw [if_neg hid, if_neg hid]
      exact has_add d (by omega) (by omega) hid hf h
end
end Go.Proofs.Ytngoclkhhfcjjaa
