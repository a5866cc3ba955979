/- Tasks in a row; a name, a priority that an earlier task has. -/
import Derived.Test.YtklnokhabomnfaaMk
import Derived.Test.YtklnokhabomnfaaLz
import Derived.IntWalk
import Derived.Lib.Strings
namespace Go.Proofs.Ytklnokhabomnfaa
open Go.RowKit

section
variable {w w' : World} {a : Option Addr} {cap : Nat} {l : List Tk} {B : Nat}
end

set_option maxHeartbeats 1000000 in
/-- Has the task this name? -/
theorem sameName (t : Tk) (n : ByteArray) (g : Nat) {w : World} (hg : g < w.heap.size) (c0 : w.cell? ⟨g, 0, none⟩ = some (.string n)) : Calls Try.prog 68 #[aggK t, .pointer (some ⟨g, 0, none⟩)] w (Tells (decide (t.name = n)) w) := by
  obtain ⟨m, tT, tD, tC, tA, tS, tc, tM, tK, tO, tP⟩ := t
  simp only [aggK]
  by_cases h : m = n
  · have e1 : (m.toList == n.toList) = true := text_eq h
    have HV := Lib.hid (decide_eq_true h)
    clear h
    go_enter Try.func68, Try.ntmps68
    go_wp2
    go_ret
    exact tells HV.out (below_new _ _)
  · have e1 : (m.toList == n.toList) = false := text_ne h
    have HV := Lib.hid (decide_eq_false h)
    clear h
    go_enter Try.func68, Try.ntmps68
    go_wp2
    go_ret
    exact tells HV.out (below_new _ _)
set_option maxHeartbeats 1000000 in
/-- Has the task this priority? -/
theorem samePrio (t : Tk) (p : Int) (g : Nat) {w : World} (hg : g < w.heap.size) (c0 : w.cell? ⟨g, 10, none⟩ = some (.int .i64 p)) : Calls Try.prog 69 #[aggK t, .pointer (some ⟨g, 0, none⟩)] w (Tells (decide (t.Prio = p)) w) := by
  obtain ⟨m, tT, tD, tC, tA, tS, tc, tM, tK, tO, tP⟩ := t
  simp only [aggK]
  have HV := Lib.hid (show decide (tP = p) = (tP == p) by by_cases h : tP = p <;> simp [h])
  go_enter Try.func69, Try.ntmps69
  go_wp2
  go_ret
  exact tells HV.out (below_new _ _)
end Go.Proofs.Ytklnokhabomnfaa
