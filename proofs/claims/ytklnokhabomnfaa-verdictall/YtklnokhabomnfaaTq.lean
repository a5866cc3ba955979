/- Sums, products and quotients of small times. -/
import Derived.Test.YtklnokhabomnfaaMem
import Derived.BigRegion
import Derived.Deep.RegionHeld3
namespace Go.Proofs.Ytklnokhabomnfaa
open Go.RowKit

set_option maxHeartbeats 400000 in
theorem isTime_yes (n : Int) (w : World) (h0 : 0 ≤ n) (h1 : n ≤ 4611686018427387904) : Calls Try.prog 58 #[.int .i64 n] w (Says (.bool true) w) := by
  go_enter Try.func58, Try.ntmps58
  go_wp2
  go_ret
  exact ⟨rfl, rfl⟩
set_option maxHeartbeats 400000 in
theorem add_small (a b : Int) (w : World) (a0 : 0 ≤ a) (a1 : a ≤ 1099511627776) (b0 : 0 ≤ b) (b1 : b ≤ 4294967296) : Calls Try.prog 39 #[.int .i64 a, .int .i64 b] w (Says (.tuple #[.int .i64 (a + b), .bool true]) w) := by
  have k : decide (4611686018427387904 - b < a) = false := by simp; omega
  go_enter Try.func39, Try.ntmps39
  go_wp2_with (go_at_call 58; refine (isTime_yes _ _ (by omega) (by omega)).mono ?_; rintro e w' ⟨rfl, rfl⟩)
  go_ret2
  exact ⟨rfl, rfl⟩
set_option maxHeartbeats 1000000 in
theorem mul_small (a b : Int) (w : World) (a0 : 0 ≤ a) (a1 : a ≤ 2147483648) (b0 : 0 ≤ b) (b1 : b ≤ 1000) : Calls Try.prog 42 #[.int .i64 a, .int .i64 b] w (Says (.tuple #[.int .i64 (a * b), .bool true]) w) := by
  have p1 : a * b ≤ 2147483648 * 1000 := Int.mul_le_mul a1 b1 b0 (by omega)
  have p0 : 0 ≤ a * b := Int.mul_nonneg a0 b0
  by_cases hz : 0 < a
  · have k : decide (4611686018427387904 / a < b) = false := by
      refine decide_eq_false (Int.not_lt.2 ?_)
      rw [Int.le_ediv_iff_mul_le hz, Int.mul_comm]
      omega
    go_enter Try.func42, Try.ntmps42
    go_wp2_with (go_at_call 58; refine (isTime_yes _ _ (by omega) (by omega)).mono ?_; rintro e w' ⟨rfl, rfl⟩)
    go_ret2
    exact ⟨rfl, rfl⟩
  · obtain rfl : a = 0 := by omega
    clear p0 p1
    rw [Int.zero_mul]
    go_enter Try.func42, Try.ntmps42
    go_wp2_with (go_at_call 58; refine (isTime_yes _ _ (by omega) (by omega)).mono ?_; rintro e w' ⟨rfl, rfl⟩)
    go_ret2
    exact ⟨by simp, rfl⟩
theorem ceil_up {a b : Int} (h2 : 0 < b) (hr : 0 < a % b) : (a + b - 1) / b = a / b + 1 := by
  have e := Int.mul_ediv_add_emod a b
  have l := Int.emod_lt_of_pos a h2
  have : a + b - 1 = (a % b - 1) + (a / b + 1) * b := by rw [Int.add_mul, Int.one_mul, Int.mul_comm (a / b) b]; omega
  rw [this, Int.add_mul_ediv_right _ _ (by omega), Int.ediv_eq_zero_of_lt (by omega) (by omega)]; omega
theorem ceil_just {a b : Int} (h2 : 0 < b) (hr : a % b = 0) : (a + b - 1) / b = a / b := by
  have e := Int.mul_ediv_add_emod a b
  have : a + b - 1 = (b - 1) + (a / b) * b := by rw [Int.mul_comm (a / b) b]; omega
  rw [this, Int.add_mul_ediv_right _ _ (by omega), Int.ediv_eq_zero_of_lt (by omega) (by omega)]; omega
set_option maxHeartbeats 1000000 in
theorem ceil_small (a b : Int) (w : World) (a0 : 0 ≤ a) (a1 : a ≤ 4611686018427387904) (b0 : 1 ≤ b) (b1 : b ≤ 1048576) : Calls Try.prog 46 #[.int .i64 a, .int .i64 b] w (Says (.tuple #[.int .i64 ((a + b - 1) / b), .bool true]) w) := by
  have q0 : 0 ≤ a / b := Int.ediv_nonneg a0 (by omega)
  have q1 : a / b ≤ 4611686018427387904 := Int.le_trans (Int.ediv_le_self _ a0) a1
  have k0 : (b == 0) = false := by simp; omega
  by_cases hr : 0 < a % b
  · have H := Lib.hid (ceil_up (a := a) (show 0 < b by omega) hr)
    rw [H.out]
    have k : decide (0 < a % b) = true := by simpa using hr
    go_enter Try.func46, Try.ntmps46
    go_wp2_with (go_at_call 58; refine (isTime_yes _ _ (by omega) (by omega)).mono ?_; rintro e w' ⟨rfl, rfl⟩)
    go_ret2
    exact ⟨rfl, rfl⟩
  · have hn := Int.emod_nonneg a (show b ≠ 0 by omega)
    have H := Lib.hid (ceil_just (a := a) (show 0 < b by omega) (by omega))
    rw [H.out]
    have k : decide (0 < a % b) = false := by simpa using hr
    clear hn
    go_enter Try.func46, Try.ntmps46
    go_wp2_with (go_at_call 58; refine (isTime_yes _ _ (by omega) (by omega)).mono ?_; rintro e w' ⟨rfl, rfl⟩)
    go_ret2
    exact ⟨rfl, rfl⟩
end Go.Proofs.Ytklnokhabomnfaa
