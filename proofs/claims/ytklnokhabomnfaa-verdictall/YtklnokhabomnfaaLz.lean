/- What is asked of one task by itself. -/
import Derived.Test.YtklnokhabomnfaaLf
import Derived.Test.YtklnokhabomnfaaSp
import Derived.Test.YtklnokhabomnfaaNz
namespace Go.Proofs.Ytklnokhabomnfaa
open Go.RowKit

set_option maxHeartbeats 400000 in
theorem within (n lo hi : Int) (w : World) {b : Bool} (hb : withinB n lo hi = b) : Calls Try.prog 34 #[.int .i64 n, .int .i64 lo, .int .i64 hi] w (Says (.bool b) w) := by
  subst hb
  unfold withinB
  by_cases h : lo ≤ n
  · have e : decide (lo ≤ n) = true := decide_eq_true h
    go_enter Try.func34, Try.ntmps34
    go_wp2
    go_ret
    exact ⟨by rw [e]; rfl, rfl⟩
  · have e : decide (lo ≤ n) = false := decide_eq_false h
    have HE := Lib.hid e
    clear e
    go_enter Try.func34, Try.ntmps34
    go_wp2
    go_ret
    exact ⟨by rw [HE.out]; rfl, rfl⟩

set_option maxHeartbeats 1000000 in
theorem badFirm (t : Tk) (v : Value) (w : World) : Calls Try.prog 54 #[aggK t, v] w (Tells (bFirm t) w) := by
  obtain ⟨n, tT, tD, tC, tA, tS, tc, tM, tK, tO, tP⟩ := t
  simp only [aggK]
  by_cases h1 : 1 ≤ tM
  · have d1 : decide (1 ≤ tM) = true := decide_eq_true h1
    by_cases h2 : tM ≤ tK
    · have d2 : decide (tM ≤ tK) = true := decide_eq_true h2
      have HV := Lib.hid (show bFirm ⟨n, tT, tD, tC, tA, tS, tc, tM, tK, tO, tP⟩ = !decide (tK ≤ 64) by simp [bFirm, firmOk, h1, h2])
      go_enter Try.func54, Try.ntmps54
      go_wp2
      go_ret
      exact tells HV.out (below_new _ _)
    · have d2 : decide (tM ≤ tK) = false := decide_eq_false h2
      have HV := Lib.hid (show bFirm ⟨n, tT, tD, tC, tA, tS, tc, tM, tK, tO, tP⟩ = true by simp [bFirm, firmOk, h2])
      go_enter Try.func54, Try.ntmps54
      go_wp2
      go_ret
      exact tells HV.out (below_new _ _)
  · have d1 : decide (1 ≤ tM) = false := decide_eq_false h1
    have HV := Lib.hid (show bFirm ⟨n, tT, tD, tC, tA, tS, tc, tM, tK, tO, tP⟩ = true by simp [bFirm, firmOk, h1])
    go_enter Try.func54, Try.ntmps54
    go_wp2
    go_ret
    exact tells HV.out (below_new _ _)
end Go.Proofs.Ytklnokhabomnfaa
