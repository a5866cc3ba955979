/- Is a task right, by itself: the statements' own. The statements' first question. -/
import Derived.Test.YtbofpbochgoafaaRx
import Derived.Test.YtbofpbochgoafaaLt
import Derived.Test.YtbofpbochgoafaaPr
import Derived.Test.YtbofpbochgoafaaBl
namespace Go.Proofs.Ytbofpbochgoafaa
open Go.RowKit

def rightT (t : Tk) : Bool := (whyF 1 [t]).1 == 0
theorem fine_right {t : Tk} (h : rightT t = true) : Fine t := by
  have h0 : (whyF 1 [t]).1 = 0 := by simpa [rightT] using h
  have := ((right_iff 1 [t]).1 h0).2.2 0 t rfl
  exact fine_of this
set_option maxHeartbeats 2000000 in
theorem refRightT (t : Tk) (w : World) : Calls Try.prog 16 #[aggK t] w (Tells (rightT t) w) := by
  obtain ⟨V, hV⟩ : ∃ V, V = (w.alloc (.cells (boxT t) 23)).alloc (.cells (boxT t) 23) := ⟨_, rfl⟩
  have HB : Hid (Below w.heap.size w V) := by rw [hV]; exact (below_new _ _).alloc (by simp) _
  have HL := Lib.hid (show Lies V (w.heap.size + 1) 23 (boxT t) by
    rw [hV]
    have := Lies.made (w.alloc (.cells (boxT t) 23)) 23 (boxT t)
    simpa using this)
  have KC : Hid (Calls Try.prog 24 #[.agg #[.int .i64 1, .slice (some ⟨w.heap.size + 1, 0, none⟩) 1 1]] V (Tells ((whyF 1 [t]).1 == 0) V)) := Lib.hid (refRight 1 [t] (some ⟨w.heap.size + 1, 0, none⟩) 1 (by unfold maxLen; simp) (tasks_row HL.out (by simp [flatK, cellsK, boxT]) (by simp)))
  have HR := Lib.hid (show ((whyF 1 [t]).1 == 0) = rightT t from rfl)
  rw [HR.out] at KC
  simp only [boxT] at hV
  have HVE := Lib.hid hV
  simp only [aggK]
  clear hV HR
  go_enter Try.func16, Try.ntmps16
  go_wp2_with (fail)
  rw [← HVE.out]
  with_reducible refine KC.out.mono ?_
  rintro e w1 ⟨rfl, hb1⟩
  have H1 := Lib.hid (HB.out.trans (hb1.mono HB.out.size))
  clear hb1
  go_wp2
  go_ret
  exact ⟨rfl, H1.out⟩
end Go.Proofs.Ytbofpbochgoafaa
