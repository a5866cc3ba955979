/- What is asked of a task's times, and of its mode. -/
import Derived.Test.YtklnokhabomnfaaLz
namespace Go.Proofs.Ytklnokhabomnfaa
open Go.RowKit

set_option maxHeartbeats 2000000 in
theorem badTimes (t : Tk) (v : Value) (w : World) : Calls Try.prog 52 #[aggK t, v] w (Tells (bTimes t) w) := by
  obtain ⟨n, tT, tD, tC, tA, tS, tc, tM, tK, tO, tP⟩ := t
  simp only [aggK]
  by_cases h1 : 1 ≤ tC
  · have d1 : decide (1 ≤ tC) = true := decide_eq_true h1
    by_cases h2 : tC ≤ tD
    · have d2 : decide (tC ≤ tD) = true := decide_eq_true h2
      by_cases h3 : tD ≤ tT
      · have d3 : decide (tD ≤ tT) = true := decide_eq_true h3
        by_cases h4 : tT ≤ 1048576
        · have d4 : decide (tT ≤ 1048576) = true := decide_eq_true h4
          have HV := Lib.hid (show bTimes ⟨n, tT, tD, tC, tA, tS, tc, tM, tK, tO, tP⟩ = !withinB tc 0 1000 by simp [bTimes, timesOk, withinB, h1, h2, h3, h4])
          cases hb : withinB tc 0 1000 with
          | true =>
            have HW := Lib.hid (fun W => within tc 0 1000 W hb)
            rw [hb] at HV
            clear hb
            go_enter Try.func52, Try.ntmps52
            go_wp2_with (fail)
            with_reducible refine (HW.out _).mono ?_
            rintro e w' ⟨rfl, rfl⟩
            go_wp2
            go_ret
            exact tells HV.out (below_new _ _)
          | false =>
            have HW := Lib.hid (fun W => within tc 0 1000 W hb)
            rw [hb] at HV
            clear hb
            go_enter Try.func52, Try.ntmps52
            go_wp2_with (fail)
            with_reducible refine (HW.out _).mono ?_
            rintro e w' ⟨rfl, rfl⟩
            go_wp2
            go_ret
            exact tells HV.out (below_new _ _)
        · have d4 : decide (tT ≤ 1048576) = false := decide_eq_false h4
          have HV := Lib.hid (show bTimes ⟨n, tT, tD, tC, tA, tS, tc, tM, tK, tO, tP⟩ = true by simp [bTimes, timesOk, h4])
          go_enter Try.func52, Try.ntmps52
          go_wp2
          go_ret
          exact tells HV.out (below_new _ _)
      · have d3 : decide (tD ≤ tT) = false := decide_eq_false h3
        have HV := Lib.hid (show bTimes ⟨n, tT, tD, tC, tA, tS, tc, tM, tK, tO, tP⟩ = true by simp [bTimes, timesOk, h3])
        go_enter Try.func52, Try.ntmps52
        go_wp2
        go_ret
        exact tells HV.out (below_new _ _)
    · have d2 : decide (tC ≤ tD) = false := decide_eq_false h2
      have HV := Lib.hid (show bTimes ⟨n, tT, tD, tC, tA, tS, tc, tM, tK, tO, tP⟩ = true by simp [bTimes, timesOk, h2])
      go_enter Try.func52, Try.ntmps52
      go_wp2
      go_ret
      exact tells HV.out (below_new _ _)
  · have d1 : decide (1 ≤ tC) = false := decide_eq_false h1
    have HV := Lib.hid (show bTimes ⟨n, tT, tD, tC, tA, tS, tc, tM, tK, tO, tP⟩ = true by simp [bTimes, timesOk, h1])
    go_enter Try.func52, Try.ntmps52
    go_wp2
    go_ret
    exact tells HV.out (below_new _ _)

set_option maxHeartbeats 2000000 in
theorem badMode (t : Tk) (v : Value) (w : World) : Calls Try.prog 53 #[aggK t, v] w (Tells (bMode t) w) := by
  obtain ⟨n, tT, tD, tC, tA, tS, tc, tM, tK, tO, tP⟩ := t
  simp only [aggK]
  by_cases h1 : tO = 1
  · subst h1
    cases hb : withinB tS 1 tC with
    | true =>
      have HW := Lib.hid (fun W => within tS 1 tC W hb)
      have HV := Lib.hid (show bMode ⟨n, tT, tD, tC, tA, tS, tc, tM, tK, 1, tP⟩ = (tA != 0) by
        simp only [withinB, Bool.and_eq_true, decide_eq_true_eq] at hb
        by_cases hA : tA = 0 <;> simp [bMode, modeOk, hb.1, hb.2, hA])
      clear hb
      go_enter Try.func53, Try.ntmps53
      go_wp2_with (fail)
      with_reducible refine (HW.out _).mono ?_
      rintro e w' ⟨rfl, rfl⟩
      go_wp2
      go_ret
      exact tells HV.out (below_new _ _)
    | false =>
      have HW := Lib.hid (fun W => within tS 1 tC W hb)
      have HV := Lib.hid (show bMode ⟨n, tT, tD, tC, tA, tS, tc, tM, tK, 1, tP⟩ = true by
        simp only [withinB, Bool.and_eq_false_iff, decide_eq_false_iff_not] at hb
        simp [bMode, modeOk]; omega)
      clear hb
      go_enter Try.func53, Try.ntmps53
      go_wp2_with (fail)
      with_reducible refine (HW.out _).mono ?_
      rintro e w' ⟨rfl, rfl⟩
      go_wp2
      go_ret
      exact tells HV.out (below_new _ _)
  · have d1 : (tO == 1) = false := by simpa using h1
    by_cases h23 : tO = 2 ∨ tO = 3
    · cases hb : withinB tA 1 tD with
      | true =>
        have HW := Lib.hid (fun W => within tA 1 tD W hb)
        have HV := Lib.hid (show bMode ⟨n, tT, tD, tC, tA, tS, tc, tM, tK, tO, tP⟩ = (tS != 0) by
          simp only [withinB, Bool.and_eq_true, decide_eq_true_eq] at hb
          by_cases hA : tS = 0 <;> simp [bMode, modeOk, h1, h23, hb.1, hb.2, hA])
        clear hb d1 h1
        rcases h23 with rfl | rfl
        all_goals
          go_enter Try.func53, Try.ntmps53
          go_wp2_with (fail)
          with_reducible refine (HW.out _).mono ?_
          rintro e w' ⟨rfl, rfl⟩
          go_wp2
          go_ret
          exact tells HV.out (below_new _ _)
      | false =>
        have HW := Lib.hid (fun W => within tA 1 tD W hb)
        have HV := Lib.hid (show bMode ⟨n, tT, tD, tC, tA, tS, tc, tM, tK, tO, tP⟩ = true by
          simp only [withinB, Bool.and_eq_false_iff, decide_eq_false_iff_not] at hb
          simp [bMode, modeOk, h1]; omega)
        clear hb d1 h1
        rcases h23 with rfl | rfl
        all_goals
          go_enter Try.func53, Try.ntmps53
          go_wp2_with (fail)
          with_reducible refine (HW.out _).mono ?_
          rintro e w' ⟨rfl, rfl⟩
          go_wp2
          go_ret
          exact tells HV.out (below_new _ _)
    · have HV := Lib.hid (show bMode ⟨n, tT, tD, tC, tA, tS, tc, tM, tK, tO, tP⟩ = true by simp [bMode, modeOk, h1]; omega)
      have d2 : (tO == 2) = false := by simp; omega
      have d3 : (tO == 3) = false := by simp; omega
      clear h1 h23
      go_enter Try.func53, Try.ntmps53
      go_wp2
      go_ret
      exact tells HV.out (below_new _ _)
end Go.Proofs.Ytklnokhabomnfaa
