/- Lengths, gaps, times; sums, quotients rounded up; how many bursts strike at most; how many faults lie between two times; whether faults are right. -/
import Derived.Test.YtckdnnmkookedaaSp
import Derived.Test.YtckdnnmkookedaaOp
namespace Go.Proofs.Ytckdnnmkookedaa
open Go.RowKit

set_option maxHeartbeats 400000 in
theorem isLength_yes (b : Int) (w : World) (h0 : 1 ≤ b) (h1 : b ≤ 1000) : Calls Try.prog 22 #[.int .i64 b] w (Says (.bool true) w) := by
  go_enter Try.func22, Try.ntmps22
  go_wp2
  go_ret
  exact ⟨rfl, rfl⟩
set_option maxHeartbeats 400000 in
theorem isGap_yes (g : Int) (w : World) (h0 : 1 ≤ g) (h1 : g ≤ 1049576) : Calls Try.prog 23 #[.int .i64 g] w (Says (.bool true) w) := by
  go_enter Try.func23, Try.ntmps23
  go_wp2
  go_ret
  exact ⟨rfl, rfl⟩
set_option maxHeartbeats 400000 in
theorem isTime_yes (n : Int) (w : World) (h0 : 0 ≤ n) (h1 : n ≤ 4611686018427387904) : Calls Try.prog 26 #[.int .i64 n] w (Says (.bool true) w) := by
  go_enter Try.func26, Try.ntmps26
  go_wp2
  go_ret
  exact ⟨rfl, rfl⟩
/-- May a length and a gap be? -/
def fineB (b g : Int) : Bool := decide (1 ≤ b ∧ b ≤ 1000 ∧ 1 ≤ g ∧ g ≤ 1049576)
set_option maxHeartbeats 1000000 in
theorem fine (b g : Int) (w : World) : Calls Try.prog 11 #[.int .i64 b, .int .i64 g] w (Says (.bool (fineB b g)) w) := by
  by_cases h1 : 1 ≤ b
  · by_cases h2 : b ≤ 1000
    · by_cases h3 : 1 ≤ g
      · by_cases h4 : g ≤ 1049576
        · have e : fineB b g = true := by unfold fineB; simp; omega
          rw [e]
          go_enter Try.func11, Try.ntmps11
          go_wp2
          go_ret
          exact ⟨rfl, rfl⟩
        · have e : fineB b g = false := by unfold fineB; simp; omega
          have t : decide (g ≤ 1049576) = false := by simp; omega
          rw [e]
          go_enter Try.func11, Try.ntmps11
          go_wp2
          go_ret
          exact ⟨rfl, rfl⟩
      · have e : fineB b g = false := by unfold fineB; simp; omega
        have t : decide (1 ≤ g) = false := by simp; omega
        rw [e]
        go_enter Try.func11, Try.ntmps11
        go_wp2
        go_ret
        exact ⟨rfl, rfl⟩
    · have e : fineB b g = false := by unfold fineB; simp; omega
      have t : decide (b ≤ 1000) = false := by simp; omega
      rw [e]
      go_enter Try.func11, Try.ntmps11
      go_wp2
      go_ret
      exact ⟨rfl, rfl⟩
  · have e : fineB b g = false := by unfold fineB; simp; omega
    have t : decide (1 ≤ b) = false := by simp; omega
    rw [e]
    go_enter Try.func11, Try.ntmps11
    go_wp2
    go_ret
    exact ⟨rfl, rfl⟩
set_option maxHeartbeats 400000 in
theorem add_small (a b : Int) (w : World) (h0 : 0 ≤ a) (h1 : 0 ≤ b) (ha : a ≤ 1099511628776) (hb : b ≤ 1000) : Calls Try.prog 24 #[.int .i64 a, .int .i64 b] w (Says (.tuple #[.int .i64 (a + b), .bool true]) w) := by
  have k : decide (4611686018427387904 - b < a) = false := by simp; omega
  go_enter Try.func24, Try.ntmps24
  go_wp2_with (go_at_call 26; refine (isTime_yes _ _ (by omega) (by omega)).mono ?_; rintro e w' ⟨rfl, rfl⟩)
  go_ret2
  exact ⟨rfl, rfl⟩
set_option maxHeartbeats 1000000 in
theorem ceil_small (a g : Int) (w : World) (h0 : 1 ≤ a) (h1 : a ≤ 1099511629776) (g0 : 1 ≤ g) (g1 : g ≤ 1049576) : Calls Try.prog 25 #[.int .i64 a, .int .i64 g] w (Says (.tuple #[.int .i64 ((a - 1) / g + 1), .bool true]) w) := by
  have E := ceil_eq h0 g0
  have k : (g == 0) = false := by simp; omega
  have td : a.tdiv g = a / g := Int.tdiv_eq_ediv_of_nonneg (by omega)
  have tm : a.tmod g = a % g := Int.tmod_eq_emod_of_nonneg (by omega)
  have r1 := Int.emod_nonneg a (b := g) (by omega)
  have r2 := Int.emod_lt_of_pos a (b := g) (by omega)
  have q1 : 0 ≤ a / g := Int.ediv_nonneg (by omega) (by omega)
  have q2 : a / g ≤ a := Int.ediv_le_self g (by omega)
  by_cases hr : 0 < a % g
  · rw [if_pos hr] at E
    rw [E]
    clear E
    go_enter Try.func25, Try.ntmps25
    go_wp2_with (go_at_call 26; refine (isTime_yes _ _ (by omega) (by omega)).mono ?_; rintro e w' ⟨rfl, rfl⟩)
    go_ret2
    exact ⟨rfl, rfl⟩
  · rw [if_neg hr] at E
    have t : decide (0 < a % g) = false := by simp; omega
    rw [E, Int.add_zero]
    clear E
    go_enter Try.func25, Try.ntmps25
    go_wp2_with (go_at_call 26; refine (isTime_yes _ _ (by omega) (by omega)).mono ?_; rintro e w' ⟨rfl, rfl⟩)
    go_ret2
    exact ⟨rfl, rfl⟩
end Go.Proofs.Ytckdnnmkookedaa
