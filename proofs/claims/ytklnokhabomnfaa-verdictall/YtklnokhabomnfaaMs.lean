/- How many bursts strike at most: the program's and the statements' own. -/
import Derived.Test.YtklnokhabomnfaaMp
import Derived.Test.YtklnokhabomnfaaTq
namespace Go.Proofs.Ytklnokhabomnfaa
open Go.RowKit

set_option maxHeartbeats 400000 in
theorem isLength_yes (b : Int) (w : World) (h0 : 1 ≤ b) (h1 : b ≤ 1000) : Calls Try.prog 63 #[.int .i64 b] w (Says (.bool true) w) := by
  go_enter Try.func63, Try.ntmps63
  go_wp2
  go_ret
  exact ⟨rfl, rfl⟩
set_option maxHeartbeats 400000 in
theorem isGap_yes (g : Int) (w : World) (h0 : 1 ≤ g) (h1 : g ≤ 1049576) : Calls Try.prog 64 #[.int .i64 g] w (Says (.bool true) w) := by
  go_enter Try.func64, Try.ntmps64
  go_wp2
  go_ret
  exact ⟨rfl, rfl⟩
set_option maxHeartbeats 400000 in
theorem add_most (a b : Int) (w : World) (h0 : 0 ≤ a) (h1 : 0 ≤ b) (ha : a ≤ 1099511628776) (hb : b ≤ 1000) : Calls Try.prog 39 #[.int .i64 a, .int .i64 b] w (Says (.tuple #[.int .i64 (a + b), .bool true]) w) := by
  have k : decide (4611686018427387904 - b < a) = false := by simp; omega
  go_enter Try.func39, Try.ntmps39
  go_wp2_with (go_at_call 58; refine (isTime_yes _ _ (by omega) (by omega)).mono ?_; rintro e w' ⟨rfl, rfl⟩)
  go_ret2
  exact ⟨rfl, rfl⟩
set_option maxHeartbeats 1000000 in
theorem ceil_most (a g : Int) (w : World) (h0 : 1 ≤ a) (h1 : a ≤ 1099511629776) (g0 : 1 ≤ g) (g1 : g ≤ 1049576) : Calls Try.prog 46 #[.int .i64 a, .int .i64 g] w (Says (.tuple #[.int .i64 ((a - 1) / g + 1), .bool true]) w) := by
  have E := ceil_eq h0 g0
  have k : (g == 0) = false := by simp; omega
  have td : a.tdiv g = a / g := Int.tdiv_eq_ediv_of_nonneg (by omega)
  have tm : a.tmod g = a % g := Int.tmod_eq_emod_of_nonneg (by omega)
  have r1 := Int.emod_nonneg a (b := g) (by omega)
  have r2 := Int.emod_lt_of_pos a (b := g) (by omega)
  have q1 : 0 ≤ a / g := Int.ediv_nonneg (by omega) (by omega)
  have q2 : a / g ≤ a := Int.ediv_le_self g (by omega)
  by_cases hr : 0 < a % g
  · rw [if_pos hr] at E
    rw [E]
    clear E
    go_enter Try.func46, Try.ntmps46
    go_wp2_with (go_at_call 58; refine (isTime_yes _ _ (by omega) (by omega)).mono ?_; rintro e w' ⟨rfl, rfl⟩)
    go_ret2
    exact ⟨rfl, rfl⟩
  · rw [if_neg hr] at E
    have t : decide (0 < a % g) = false := by simp; omega
    rw [E, Int.add_zero]
    clear E
    go_enter Try.func46, Try.ntmps46
    go_wp2_with (go_at_call 58; refine (isTime_yes _ _ (by omega) (by omega)).mono ?_; rintro e w' ⟨rfl, rfl⟩)
    go_ret2
    exact ⟨rfl, rfl⟩
set_option maxHeartbeats 1000000 in
theorem most (W b g : Int) (w : World) (h0 : 0 ≤ W) (h1 : W ≤ 1099511627776) (b0 : 1 ≤ b) (b1 : b ≤ 1000) (g0 : 1 ≤ g) (g1 : g ≤ 1049576) : Calls Try.prog 45 #[.int .i64 W, .int .i64 b, .int .i64 g] w (Says (.int .i64 (mostF W b g)) w) := by
  by_cases hw : 1 ≤ W
  · have E : mostF W b g = (W + (b - 1) - 1) / g + 1 := by rw [mostF_pos hw]; congr 2; omega
    have t : decide (W < 1) = false := by simp; omega
    have KC := Lib.hid (fun w' => ceil_most (W + (b - 1)) g w' (by omega) (by omega) g0 g1)
    rw [← E] at KC
    clear E
    generalize mostF W b g = r at *
    go_enter Try.func45, Try.ntmps45
    go_wp2_with (first
      | (go_at_call 63; refine (isLength_yes _ _ b0 b1).mono ?_; rintro e w' ⟨rfl, rfl⟩)
      | (go_at_call 64; refine (isGap_yes _ _ g0 g1).mono ?_; rintro e w' ⟨rfl, rfl⟩)
      | (go_at_call 39; refine (add_most W (b - 1) _ h0 (by omega) (by omega) (by omega)).mono ?_; rintro e w' ⟨rfl, rfl⟩)
      | (go_at_call 46; refine (KC.out _).mono ?_; rintro e w' ⟨rfl, rfl⟩))
    go_ret
    exact ⟨rfl, rfl⟩
  · obtain rfl : W = 0 := by omega
    rw [mostF_zero]
    go_enter Try.func45, Try.ntmps45
    go_wp2
    go_ret
    exact ⟨rfl, rfl⟩
set_option maxHeartbeats 1000000 in
theorem refMost (W b g : Int) (w : World) (h0 : 0 ≤ W) (h1 : W ≤ 1099511627776) (b0 : 1 ≤ b) (b1 : b ≤ 1000) (g0 : 1 ≤ g) (g1 : g ≤ 1049576) : Calls Try.prog 49 #[.int .i64 W, .int .i64 b, .int .i64 g] w (Says (.int .i64 (mostF W b g)) w) := by
  by_cases hw : 1 ≤ W
  · rw [mostF_pos hw]
    have t : (W == 0) = false := by simp; omega
    have t2 : (g == 0) = false := by simp; omega
    have td : (W + b - 2).tdiv g = (W + b - 2) / g := Int.tdiv_eq_ediv_of_nonneg (by omega)
    have q1 : 0 ≤ (W + b - 2) / g := Int.ediv_nonneg (by omega) (by omega)
    have q2 : (W + b - 2) / g ≤ W + b - 2 := Int.ediv_le_self g (by omega)
    go_enter Try.func49, Try.ntmps49
    go_wp2
    go_ret
    exact ⟨rfl, rfl⟩
  · obtain rfl : W = 0 := by omega
    rw [mostF_zero]
    go_enter Try.func49, Try.ntmps49
    go_wp2
    go_ret
    exact ⟨rfl, rfl⟩
end Go.Proofs.Ytklnokhabomnfaa
