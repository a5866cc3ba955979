/- The statements' own answers: why a set isn't right, whether it is; whether its tasks are few. -/
import Derived.Test.YtklnokhabomnfaaRw
namespace Go.Proofs.Ytklnokhabomnfaa
open Go.RowKit

set_option maxRecDepth 100000 in
set_option maxHeartbeats 4000000 in
theorem refWhy (b : Int) (l : List Tk) (a : Option Addr) (cap : Nat) {w : World} (hm : l.length ≤ maxLen) (ht : Tasks w a cap l) :
    Calls Try.prog 20 #[.agg #[.int .i64 b, .slice a l.length cap]] w (Whys (whyF b l) w) := by
  unfold maxLen at hm
  by_cases hb1 : b < 1
  · have HV := Lib.hid (whyF_burst (b := b) (l := l) (by omega))
    clear ht
    go_enter Try.func20, Try.ntmps20
    go_wp2
    go_ret2
    exact whys HV.out (below_new _ _)
  · have d1 : decide (b < 1) = false := decide_eq_false hb1
    by_cases hb2 : 1000 < b
    · have d2 : decide (1000 < b) = true := decide_eq_true hb2
      have HV := Lib.hid (whyF_burst (b := b) (l := l) (by omega))
      clear ht
      go_enter Try.func20, Try.ntmps20
      go_wp2
      go_ret2
      exact whys HV.out (below_new _ _)
    · have d2 : decide (1000 < b) = false := decide_eq_false hb2
      by_cases hl1 : l.length < 1
      · have d3 : decide ((l.length : Int) < 1) = true := by simp; omega
        have HV := Lib.hid (whyF_count (b := b) (l := l) (by omega) (by omega))
        have hz : l.length = 0 := by omega
        clear ht
        go_enter Try.func20, Try.ntmps20
        go_wp2
        go_ret2
        exact whys HV.out (below_new _ _)
      · by_cases hl2 : 16 < l.length
        · have d3 : decide ((l.length : Int) < 1) = false := by simp; omega
          have d4 : decide ((16 : Int) < (l.length : Int)) = true := by simp; omega
          have HV := Lib.hid (whyF_count (b := b) (l := l) (by omega) (by omega))
          clear ht
          go_enter Try.func20, Try.ntmps20
          go_wp2
          go_ret2
          exact whys HV.out (below_new _ _)
        · exact refWhy_go b l a cap (by omega) (by omega) (by omega) (by omega) ht

set_option maxHeartbeats 1000000 in
theorem refRight (b : Int) (l : List Tk) (a : Option Addr) (cap : Nat) {w : World} (hm : l.length ≤ maxLen) (ht : Tasks w a cap l) :
    Calls Try.prog 11 #[.agg #[.int .i64 b, .slice a l.length cap]] w (Tells ((whyF b l).1 == 0) w) := by
  have KC := Lib.hid (refWhy b l a cap (w := w.alloc (.cells #[.int .i64 b, .slice a l.length cap] 24)) hm (ht.below (Nat.le_refl _) (below_new _ _)))
  clear ht hm
  generalize whyF b l = p at KC ⊢
  go_enter Try.func11, Try.ntmps11
  go_wp2_with (fail)
  with_reducible refine KC.out.mono ?_
  rintro e w1 ⟨rfl, hb1⟩
  have H1 := Lib.hid hb1
  clear hb1
  go_wp2
  go_ret
  exact ⟨rfl, (below_new _ _).trans (H1.out.mono (below_new _ _).size)⟩
end Go.Proofs.Ytklnokhabomnfaa
