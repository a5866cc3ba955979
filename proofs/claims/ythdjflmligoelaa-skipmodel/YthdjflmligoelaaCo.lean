/- How many among the first n must be, and whether job n must: the program's and the statements' own, of a right pattern. -/
import Derived.Test.YthdjflmligoelaaLf
namespace Go.Proofs.Ythdjflmligoelaa
open Go.RowKit Nu

/-- A right pattern. -/
structure Pat (kind m k : Int) : Prop where
  kd : kind = 1 ∨ kind = 2
  m1 : 1 ≤ m
  le : m ≤ k
  k2 : k ≤ 64
theorem Pat.right {kind m k : Int} (h : Pat kind m k) : rightB kind m k = true := rightB_yes.2 ⟨h.kd, h.m1, h.le, h.k2⟩
theorem Pat.of {kind m k : Int} (h : rightB kind m k = true) : Pat kind m k := by
  obtain ⟨a, b, c, d⟩ := rightB_yes.1 h
  exact ⟨a, b, c, d⟩

theorem deep_bounds {n m k : Int} (n0 : 0 ≤ n) (n1 : n ≤ 1099511627777) (m1 : 1 ≤ m) (mk : m ≤ k) (k2 : k ≤ 64) :
    0 ≤ n / k ∧ n / k ≤ 1099511627777 ∧ 0 ≤ n % k ∧ n % k < k ∧ 0 ≤ n / k * m ∧ n / k * m ≤ 1099511627777 := by
  have a := Int.ediv_nonneg n0 (show 0 ≤ k by omega)
  have b := Int.le_trans (Int.ediv_le_self k n0) n1
  have c := Int.emod_nonneg n (show k ≠ 0 by omega)
  have d := Int.emod_lt_of_pos n (show 0 < k by omega)
  have e := Int.mul_nonneg a (show 0 ≤ m by omega)
  have f := Int.mul_le_mul_of_nonneg_left mk a
  have g := Int.mul_ediv_add_emod n k
  rw [Int.mul_comm] at g
  exact ⟨a, b, c, d, e, by omega⟩

set_option maxRecDepth 100000 in
set_option maxHeartbeats 1000000 in
theorem amongEven (n m k : Int) (w : World) (n0 : 0 ≤ n) (n1 : n ≤ 1099511627777) (m1 : 1 ≤ m) (mk : m ≤ k) (k2 : k ≤ 64) : Calls Try.prog 29 #[.int .i64 1, .int .i64 n, .int .i64 m, .int .i64 k] w (Saw (.int .i64 (cnt 1 n m k)) w) := by
  have KM := Lib.hid (mul_small n m w n0 n1 (by omega) (by omega))
  have p1 : n * m ≤ 1099511627777 * 64 := Int.mul_le_mul n1 (by omega) (by omega) (by omega)
  have p0 : 0 ≤ n * m := Int.mul_nonneg n0 (by omega)
  have KC := ceil_small (n * m) k w p0 (by omega) (by omega) k2
  rw [cnt_even (by omega)] at KC
  have KC := Lib.hid KC
  generalize n * m = x at KM KC
  clear p0 p1
  go_enter Try.func29, Try.ntmps29
  go_wp2_with (fail)
  with_reducible refine KM.out.mono ?_
  rintro e w1 ⟨rfl, rfl⟩
  go_wp2_with (fail)
  with_reducible refine KC.out.mono ?_
  rintro e w1 ⟨rfl, rfl⟩
  go_wp2
  go_ret
  exact ⟨rfl, 0, rfl⟩
set_option maxRecDepth 100000 in
set_option maxHeartbeats 1000000 in
theorem amongDeep (n m k : Int) (w : World) (n0 : 0 ≤ n) (n1 : n ≤ 1099511627777) (m1 : 1 ≤ m) (mk : m ≤ k) (k2 : k ≤ 64) : Calls Try.prog 29 #[.int .i64 2, .int .i64 n, .int .i64 m, .int .i64 k] w (Saw (.int .i64 (cnt 2 n m k)) w) := by
  obtain ⟨a1, a2, a3, a4, a5, a6⟩ := deep_bounds n0 n1 m1 mk k2
  have hk0 : ¬ k = 0 := by omega
  have HC := Lib.hid (show cnt 2 n m k = n / k * m + if n % k < m then n % k else m from cnt_deep)
  go_enter Try.func29, Try.ntmps29
  go_wp2_with (fail)
  go_region
  go_wp2
  all_goals
    go_ret
    refine ⟨ret_int ?_, _, rfl⟩
    rw [HC.out]
    clear HC
    split <;> omega
theorem among {kind m k : Int} (h : Pat kind m k) (n : Int) (w : World) (n0 : 0 ≤ n) (n1 : n ≤ 1099511627777) : Calls Try.prog 29 #[.int .i64 kind, .int .i64 n, .int .i64 m, .int .i64 k] w (Saw (.int .i64 (cnt kind n m k)) w) := by
  rcases h.kd with rfl | rfl
  · exact amongEven n m k w n0 n1 h.m1 h.le h.k2
  · exact amongDeep n m k w n0 n1 h.m1 h.le h.k2

set_option maxRecDepth 100000 in
set_option maxHeartbeats 1000000 in
theorem mustAt {kind m k : Int} (h : Pat kind m k) (n : Int) (w : World) (n0 : 0 ≤ n) (n1 : n ≤ 1099511627776) : Calls Try.prog 20 #[.int .i64 kind, .int .i64 n, .int .i64 m, .int .i64 k] w (Saw (.bool (must kind n m k)) w) := by
  have KR := rightAny kind m k w
  rw [h.right] at KR
  have KR := Lib.hid KR
  have KJ := Lib.hid (isJob_yes n w n0 n1)
  have KA := Lib.hid (among h (n + 1) w (by omega) (by omega))
  have KB := Lib.hid (fun q => among h n (w.drewN q) n0 (by omega))
  have HM := Lib.hid (show must kind n m k = decide (cnt kind n m k < cnt kind (n + 1) m k) from rfl)
  rw [HM.out]
  generalize cnt kind (n + 1) m k = x at KA
  generalize cnt kind n m k = y at KB
  clear HM
  go_enter Try.func20, Try.ntmps20
  go_wp2_with (fail)
  with_reducible refine KR.out.mono ?_
  rintro e w1 ⟨rfl, rfl⟩
  go_wp2_with (fail)
  with_reducible refine KJ.out.mono ?_
  rintro e w1 ⟨rfl, rfl⟩
  go_wp2_with (fail)
  with_reducible refine KA.out.mono ?_
  rintro e w1 ⟨rfl, q, rfl⟩
  go_wp2_with (fail)
  with_reducible refine (KB.out _).mono ?_
  rintro e w1 ⟨rfl, q2, rfl⟩
  go_wp2
  go_ret
  exact ⟨rfl, _, rfl⟩

set_option maxRecDepth 100000 in
set_option maxHeartbeats 1000000 in
theorem refEven (n m k : Int) (w : World) (n0 : 0 ≤ n) (n1 : n ≤ 1099511627777) (m1 : 1 ≤ m) (mk : m ≤ k) (k2 : k ≤ 64) : Calls Try.prog 21 #[.int .i64 1, .int .i64 n, .int .i64 m, .int .i64 k] w (Saw (.int .i64 (cnt 1 n m k)) w) := by
  obtain ⟨a1, a2, a3, a4, a5, a6⟩ := deep_bounds n0 n1 m1 mk k2
  have b1 : 0 ≤ n % k * m := Int.mul_nonneg a3 (by omega)
  have b2 : n % k * m ≤ 64 * 64 := Int.mul_le_mul (by omega) (by omega) (by omega) (by omega)
  have b3 : 0 ≤ (n % k * m + k - 1) / k := Int.ediv_nonneg (by omega) (by omega)
  have b4 : (n % k * m + k - 1) / k ≤ n % k * m + k - 1 := Int.ediv_le_self _ (by omega)
  have HC := Lib.hid (show cnt 1 n m k = n / k * m + (n % k * m + k - 1) / k from by unfold cnt rest; rw [if_pos rfl])
  rw [HC.out]
  have hk0 : ¬ k = 0 := by omega
  go_enter Try.func21, Try.ntmps21
  go_wp2_with (fail)
  go_region
  go_wp2
  go_ret
  exact ⟨rfl, _, rfl⟩
set_option maxRecDepth 100000 in
set_option maxHeartbeats 1000000 in
theorem refDeep (n m k : Int) (w : World) (n0 : 0 ≤ n) (n1 : n ≤ 1099511627777) (m1 : 1 ≤ m) (mk : m ≤ k) (k2 : k ≤ 64) : Calls Try.prog 21 #[.int .i64 2, .int .i64 n, .int .i64 m, .int .i64 k] w (Saw (.int .i64 (cnt 2 n m k)) w) := by
  obtain ⟨a1, a2, a3, a4, a5, a6⟩ := deep_bounds n0 n1 m1 mk k2
  have hk0 : ¬ k = 0 := by omega
  by_cases hr : m < n % k
  · have HC := Lib.hid (show cnt 2 n m k = n / k * m + m from by rw [cnt_deep, if_neg (by omega)])
    rw [HC.out]
    have t1 : decide (m < n % k) = true := decide_eq_true hr
    go_enter Try.func21, Try.ntmps21
    go_wp2
    go_ret
    exact ⟨rfl, 0, rfl⟩
  · have HC := Lib.hid (show cnt 2 n m k = n / k * m + n % k from by rw [cnt_deep]; split <;> omega)
    rw [HC.out]
    have t1 : decide (m < n % k) = false := decide_eq_false hr
    go_enter Try.func21, Try.ntmps21
    go_wp2
    go_ret
    exact ⟨rfl, 0, rfl⟩
theorem refCount {kind m k : Int} (h : Pat kind m k) (n : Int) (w : World) (n0 : 0 ≤ n) (n1 : n ≤ 1099511627777) : Calls Try.prog 21 #[.int .i64 kind, .int .i64 n, .int .i64 m, .int .i64 k] w (Saw (.int .i64 (cnt kind n m k)) w) := by
  rcases h.kd with rfl | rfl
  · exact refEven n m k w n0 n1 h.m1 h.le h.k2
  · exact refDeep n m k w n0 n1 h.m1 h.le h.k2
set_option maxRecDepth 100000 in
set_option maxHeartbeats 1000000 in
theorem refMust {kind m k : Int} (h : Pat kind m k) (n : Int) (w : World) (n0 : 0 ≤ n) (n1 : n ≤ 1099511627776) : Calls Try.prog 15 #[.int .i64 kind, .int .i64 n, .int .i64 m, .int .i64 k] w (Saw (.bool (must kind n m k)) w) := by
  have KA := Lib.hid (refCount h (n + 1) w (by omega) (by omega))
  have KB := Lib.hid (fun q => refCount h n (w.drewN q) n0 (by omega))
  have HM := Lib.hid (must_eq kind (n := n) h.m1 h.le)
  rw [HM.out]
  have c1 := cnt_low kind n0 h.m1 h.le
  have c2 := cnt_high kind n0 h.m1 h.le
  generalize cnt kind (n + 1) m k = x at KA
  generalize cnt kind n m k = y at KB c1 c2
  clear HM
  go_enter Try.func15, Try.ntmps15
  go_wp2_with (fail)
  with_reducible refine KA.out.mono ?_
  rintro e w1 ⟨rfl, q, rfl⟩
  go_wp2_with (fail)
  with_reducible refine (KB.out _).mono ?_
  rintro e w1 ⟨rfl, q2, rfl⟩
  go_wp2
  go_ret
  exact ⟨rfl, _, rfl⟩
end Go.Proofs.Ythdjflmligoelaa
