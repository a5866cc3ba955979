/- Which patterns there are; products and quotients of small numbers; how many among the first n, whether a job must be: the program's and the statements' own. -/
import Derived.Test.YthdjflmligoelaaMem
import Derived.Test.YthdjflmligoelaaNu
import Derived.BigRegion
import Derived.Deep.RegionHeld3
namespace Go.Proofs.Ythdjflmligoelaa
open Go.RowKit

/-- Is there such a pattern? -/
def rightB (kind m k : Int) : Bool := (kind == 1 || kind == 2) && (decide (1 ≤ m) && (decide (m ≤ k) && decide (k ≤ 64)))
theorem rightB_yes {kind m k : Int} : rightB kind m k = true ↔ (kind = 1 ∨ kind = 2) ∧ 1 ≤ m ∧ m ≤ k ∧ k ≤ 64 := by
  unfold rightB
  simp
theorem right_ways (kind m k : Int) : (rightB kind m k = false ∧ (kind == 1) = false ∧ (kind == 2) = false) ∨ ((kind = 1 ∨ kind = 2) ∧ ((rightB kind m k = false ∧ m < 1) ∨ (rightB kind m k = false ∧ 1 ≤ m ∧ k < m) ∨ (rightB kind m k = false ∧ 1 ≤ m ∧ m ≤ k ∧ 64 < k) ∨ (rightB kind m k = true ∧ 1 ≤ m ∧ m ≤ k ∧ k ≤ 64))) := by
  cases h : rightB kind m k with
  | true =>
    obtain ⟨a, b, c, d⟩ := rightB_yes.1 h
    exact .inr ⟨a, .inr (.inr (.inr ⟨rfl, b, c, d⟩))⟩
  | false =>
    have h' : ¬ rightB kind m k = true := by rw [h]; simp
    rw [rightB_yes] at h'
    by_cases hk : kind = 1 ∨ kind = 2
    · refine .inr ⟨hk, ?_⟩
      by_cases h1 : m < 1
      · exact .inl ⟨rfl, h1⟩
      · by_cases h2 : k < m
        · exact .inr (.inl ⟨rfl, by omega, h2⟩)
        · by_cases h3 : 64 < k
          · exact .inr (.inr (.inl ⟨rfl, by omega, by omega, h3⟩))
          · exact absurd ⟨hk, by omega, by omega, by omega⟩ h'
    · refine .inl ⟨rfl, ?_, ?_⟩ <;> simp <;> omega

set_option maxHeartbeats 2000000 in
theorem rightAny (kind m k : Int) (w : World) : Calls Try.prog 17 #[.int .i64 kind, .int .i64 m, .int .i64 k] w (Says (.bool (rightB kind m k)) w) := by
  rcases right_ways kind m k with ⟨h, h1, h2⟩ | ⟨hk, ⟨h, h1⟩ | ⟨h, h1, h2⟩ | ⟨h, h1, h2, h3⟩ | ⟨h, h1, h2, h3⟩⟩
  · rw [h]; clear h
    go_enter Try.func17, Try.ntmps17
    go_wp2
    go_ret
    exact ⟨rfl, rfl⟩
  all_goals
    rw [h]; clear h
    rcases hk with rfl | rfl
    all_goals
      first
        | (have t1 : decide (1 ≤ m) = false := decide_eq_false (by omega))
        | (have t1 : decide (1 ≤ m) = true := decide_eq_true (by omega)
           first
             | (have t2 : decide (m ≤ k) = false := decide_eq_false (by omega))
             | (have t2 : decide (m ≤ k) = true := decide_eq_true (by omega)
                first
                  | (have t3 : decide (k ≤ 64) = false := decide_eq_false (by omega))
                  | (have t3 : decide (k ≤ 64) = true := decide_eq_true (by omega))))
      go_enter Try.func17, Try.ntmps17
      go_wp2
      go_ret
      exact ⟨rfl, rfl⟩
set_option maxHeartbeats 2000000 in
theorem refRightAny (kind m k : Int) (w : World) : Calls Try.prog 9 #[.int .i64 kind, .int .i64 m, .int .i64 k] w (Says (.bool (rightB kind m k)) w) := by
  rcases right_ways kind m k with ⟨h, h1, h2⟩ | ⟨hk, ⟨h, h1⟩ | ⟨h, h1, h2⟩ | ⟨h, h1, h2, h3⟩ | ⟨h, h1, h2, h3⟩⟩
  · rw [h]; clear h
    go_enter Try.func9, Try.ntmps9
    go_wp2
    go_ret
    exact ⟨rfl, rfl⟩
  all_goals
    rw [h]; clear h
    rcases hk with rfl | rfl
    all_goals
      first
        | (have t1 : decide (1 ≤ m) = false := decide_eq_false (by omega))
        | (have t1 : decide (1 ≤ m) = true := decide_eq_true (by omega)
           first
             | (have t2 : decide (m ≤ k) = false := decide_eq_false (by omega))
             | (have t2 : decide (m ≤ k) = true := decide_eq_true (by omega)
                first
                  | (have t3 : decide (k ≤ 64) = false := decide_eq_false (by omega))
                  | (have t3 : decide (k ≤ 64) = true := decide_eq_true (by omega))))
      go_enter Try.func9, Try.ntmps9
      go_wp2
      go_ret
      exact ⟨rfl, rfl⟩

set_option maxHeartbeats 400000 in
theorem isTime_yes (n : Int) (w : World) (h0 : 0 ≤ n) (h1 : n ≤ 4611686018427387904) : Calls Try.prog 37 #[.int .i64 n] w (Says (.bool true) w) := by
  go_enter Try.func37, Try.ntmps37
  go_wp2
  go_ret
  exact ⟨rfl, rfl⟩
set_option maxHeartbeats 400000 in
theorem isJob_yes (n : Int) (w : World) (h0 : 0 ≤ n) (h1 : n ≤ 1099511627776) : Calls Try.prog 28 #[.int .i64 n] w (Says (.bool true) w) := by
  go_enter Try.func28, Try.ntmps28
  go_wp2
  go_ret
  exact ⟨rfl, rfl⟩

set_option maxHeartbeats 1000000 in
theorem mul_small (a b : Int) (w : World) (a0 : 0 ≤ a) (a1 : a ≤ 1099511627777) (b0 : 0 ≤ b) (b1 : b ≤ 64) : Calls Try.prog 34 #[.int .i64 a, .int .i64 b] w (Says (.tuple #[.int .i64 (a * b), .bool true]) w) := by
  have p1 : a * b ≤ 1099511627777 * 64 := Int.mul_le_mul a1 b1 b0 (by omega)
  have p0 : 0 ≤ a * b := Int.mul_nonneg a0 b0
  by_cases hz : 0 < a
  · have k : decide (4611686018427387904 / a < b) = false := by
      refine decide_eq_false (Int.not_lt.2 ?_)
      rw [Int.le_ediv_iff_mul_le hz, Int.mul_comm]
      omega
    go_enter Try.func34, Try.ntmps34
    go_wp2_with (go_at_call 37; refine (isTime_yes _ _ (by omega) (by omega)).mono ?_; rintro e w' ⟨rfl, rfl⟩)
    go_ret2
    exact ⟨rfl, rfl⟩
  · obtain rfl : a = 0 := by omega
    clear p0 p1
    rw [Int.zero_mul]
    go_enter Try.func34, Try.ntmps34
    go_wp2_with (go_at_call 37; refine (isTime_yes _ _ (by omega) (by omega)).mono ?_; rintro e w' ⟨rfl, rfl⟩)
    go_ret2
    exact ⟨by simp, rfl⟩
theorem ceil_up {a b : Int} (h2 : 0 < b) (hr : 0 < a % b) : (a + b - 1) / b = a / b + 1 := by
  have e := Int.mul_ediv_add_emod a b
  have l := Int.emod_lt_of_pos a h2
  have : a + b - 1 = (a % b - 1) + (a / b + 1) * b := by rw [Int.add_mul, Int.one_mul, Int.mul_comm (a / b) b]; omega
  rw [this, Int.add_mul_ediv_right _ _ (by omega), Int.ediv_eq_zero_of_lt (by omega) (by omega)]; omega
theorem ceil_just {a b : Int} (h2 : 0 < b) (hr : a % b = 0) : (a + b - 1) / b = a / b := by
  have e := Int.mul_ediv_add_emod a b
  have : a + b - 1 = (b - 1) + (a / b) * b := by rw [Int.mul_comm (a / b) b]; omega
  rw [this, Int.add_mul_ediv_right _ _ (by omega), Int.ediv_eq_zero_of_lt (by omega) (by omega)]; omega
set_option maxHeartbeats 1000000 in
theorem ceil_small (a b : Int) (w : World) (a0 : 0 ≤ a) (a1 : a ≤ 4611686018427387904) (b0 : 1 ≤ b) (b1 : b ≤ 64) : Calls Try.prog 35 #[.int .i64 a, .int .i64 b] w (Says (.tuple #[.int .i64 ((a + b - 1) / b), .bool true]) w) := by
  have q0 : 0 ≤ a / b := Int.ediv_nonneg a0 (by omega)
  have q1 : a / b ≤ 4611686018427387904 := Int.le_trans (Int.ediv_le_self _ a0) a1
  have k0 : (b == 0) = false := by simp; omega
  by_cases hr : 0 < a % b
  · have H := Lib.hid (ceil_up (a := a) (show 0 < b by omega) hr)
    rw [H.out]
    have k : decide (0 < a % b) = true := by simpa using hr
    go_enter Try.func35, Try.ntmps35
    go_wp2_with (go_at_call 37; refine (isTime_yes _ _ (by omega) (by omega)).mono ?_; rintro e w' ⟨rfl, rfl⟩)
    go_ret2
    exact ⟨rfl, rfl⟩
  · have hn := Int.emod_nonneg a (show b ≠ 0 by omega)
    have H := Lib.hid (ceil_just (a := a) (show 0 < b by omega) (by omega))
    rw [H.out]
    have k : decide (0 < a % b) = false := by simpa using hr
    clear hn
    go_enter Try.func35, Try.ntmps35
    go_wp2_with (go_at_call 37; refine (isTime_yes _ _ (by omega) (by omega)).mono ?_; rintro e w' ⟨rfl, rfl⟩)
    go_ret2
    exact ⟨rfl, rfl⟩
end Go.Proofs.Ythdjflmligoelaa
