/- How many among the first n jobs must be, as plain numbers: what follows of the rule. No program here. -/
namespace Go.Proofs.Ythdjflmligoelaa.Nu

/-- Of a rest of r jobs. -/
def rest (kind r m k : Int) : Int := if kind = 1 then (r * m + k - 1) / k else if r < m then r else m
/-- Of the first n. -/
def cnt (kind n m k : Int) : Int := n / k * m + rest kind (n % k) m k
/-- Must job n be? -/
def must (kind n m k : Int) : Bool := decide (cnt kind n m k < cnt kind (n + 1) m k)

theorem up {x k : Int} (hk : 0 < k) : (x + k) / k = x / k + 1 := by
  have := Int.add_mul_ediv_right x 1 (show k ≠ 0 by omega)
  rwa [Int.one_mul] at this
theorem all_of {m k : Int} (hk : 0 < k) : (k * m + k - 1) / k = m := by
  rw [show k * m + k - 1 = (k - 1) + m * k by rw [Int.mul_comm k m]; omega, Int.add_mul_ediv_right _ _ (by omega), Int.ediv_eq_zero_of_lt (by omega) (by omega), Int.zero_add]
theorem rest_none (kind : Int) {m k : Int} (hm : 1 ≤ m) (hk : 0 < k) : rest kind 0 m k = 0 := by
  unfold rest
  split
  · rw [Int.zero_mul]; exact Int.ediv_eq_zero_of_lt (by omega) (by omega)
  · rw [if_pos (by omega)]
theorem rest_all (kind : Int) {m k : Int} (hk : 0 < k) (hm : m ≤ k) : rest kind k m k = m := by
  unfold rest
  split
  · exact all_of hk
  · split <;> omega
theorem rest_step (kind : Int) {r m k : Int} (hm : 1 ≤ m) (hk : m ≤ k) : rest kind r m k ≤ rest kind (r + 1) m k ∧ rest kind (r + 1) m k ≤ rest kind r m k + 1 := by
  unfold rest
  split
  · rw [Int.add_mul, Int.one_mul]
    constructor
    · exact Int.ediv_le_ediv (by omega) (by omega)
    · rw [← up (show 0 < k by omega)]
      exact Int.ediv_le_ediv (by omega) (by omega)
  · constructor <;> (repeat' split) <;> omega
theorem rest_low (kind : Int) {r m k : Int} (hr : 0 ≤ r) (hm : 1 ≤ m) (hk : m ≤ k) : 0 ≤ rest kind r m k := by
  unfold rest
  split
  · have := Int.mul_nonneg hr (show 0 ≤ m by omega)
    exact Int.ediv_nonneg (by omega) (by omega)
  · split <;> omega
theorem rest_high (kind : Int) {r m k : Int} (hr : 0 ≤ r) (hm : 1 ≤ m) (hk : m ≤ k) : rest kind r m k ≤ r := by
  unfold rest
  split
  · have h1 : r * m ≤ r * k := Int.mul_le_mul_of_nonneg_left hk hr
    have h2 := all_of (m := r) (show 0 < k by omega)
    rw [Int.mul_comm k r] at h2
    refine Int.le_trans (Int.ediv_le_ediv (by omega) (show r * m + k - 1 ≤ r * k + k - 1 by omega)) (by omega)
  · split <;> omega
theorem next_at {n k : Int} (hk : 0 < k) (h : n % k + 1 < k) : (n + 1) / k = n / k ∧ (n + 1) % k = n % k + 1 := by
  have e := Int.mul_ediv_add_emod n k
  have l := Int.emod_nonneg n (show k ≠ 0 by omega)
  have : n + 1 = (n % k + 1) + n / k * k := by rw [Int.mul_comm (n / k) k]; omega
  rw [this, Int.add_mul_ediv_right _ _ (by omega), Int.add_mul_emod_self_right, Int.ediv_eq_zero_of_lt (by omega) h, Int.emod_eq_of_lt (by omega) h]
  omega
theorem next_round {n k : Int} (hk : 0 < k) (h : n % k + 1 = k) : (n + 1) / k = n / k + 1 ∧ (n + 1) % k = 0 := by
  have e := Int.mul_ediv_add_emod n k
  have : n + 1 = 0 + (n / k + 1) * k := by rw [Int.add_mul, Int.one_mul, Int.mul_comm (n / k) k]; omega
  rw [this, Int.add_mul_ediv_right _ _ (by omega), Int.add_mul_emod_self_right]
  simp
theorem cnt_next (kind : Int) {n m k : Int} (hm : 1 ≤ m) (hk : m ≤ k) : cnt kind (n + 1) m k = n / k * m + rest kind (n % k + 1) m k := by
  have l := Int.emod_lt_of_pos n (show 0 < k by omega)
  by_cases h : n % k + 1 < k
  · obtain ⟨a, b⟩ := next_at (by omega) h
    unfold cnt
    rw [a, b]
  · obtain ⟨a, b⟩ := next_round (by omega) (show n % k + 1 = k by omega)
    unfold cnt
    rw [a, b, rest_none kind hm (by omega), show n % k + 1 = k by omega, rest_all kind (by omega) hk, Int.add_mul, Int.one_mul, Int.add_zero]
theorem cnt_step (kind : Int) {n m k : Int} (hm : 1 ≤ m) (hk : m ≤ k) : cnt kind n m k ≤ cnt kind (n + 1) m k ∧ cnt kind (n + 1) m k ≤ cnt kind n m k + 1 := by
  rw [cnt_next kind hm hk]
  have := rest_step kind (r := n % k) hm hk
  unfold cnt
  omega
theorem must_yes (kind : Int) {n m k : Int} (hm : 1 ≤ m) (hk : m ≤ k) (h : must kind n m k = true) : cnt kind (n + 1) m k = cnt kind n m k + 1 := by
  have := cnt_step kind (n := n) hm hk
  simp only [must, decide_eq_true_eq] at h
  omega
theorem must_no (kind : Int) {n m k : Int} (hm : 1 ≤ m) (hk : m ≤ k) (h : must kind n m k = false) : cnt kind (n + 1) m k = cnt kind n m k := by
  have := cnt_step kind (n := n) hm hk
  simp only [must, decide_eq_false_iff_not] at h
  omega
theorem must_eq (kind : Int) {n m k : Int} (hm : 1 ≤ m) (hk : m ≤ k) : must kind n m k = (cnt kind (n + 1) m k == cnt kind n m k + 1) := by
  cases h : must kind n m k with
  | true => rw [must_yes kind hm hk h]; simp
  | false => rw [must_no kind hm hk h]; symm; rw [beq_eq_false_iff_ne]; omega
theorem round_at {n k : Int} (hk : 0 < k) : (n + k) / k = n / k + 1 ∧ (n + k) % k = n % k := ⟨up hk, by simp⟩
theorem cnt_round (kind : Int) {n m k : Int} (hk : 0 < k) : cnt kind (n + k) m k = cnt kind n m k + m := by
  obtain ⟨a, b⟩ := round_at (n := n) hk
  unfold cnt
  rw [a, b, Int.add_mul, Int.one_mul]
  omega
theorem must_round (kind : Int) {n m k : Int} (hk : 0 < k) : must kind (n + k) m k = must kind n m k := by
  unfold must
  rw [show n + k + 1 = n + 1 + k by omega, cnt_round kind hk, cnt_round kind hk]
  exact decide_eq_decide.2 (by omega)
theorem cnt_none (kind : Int) {m k : Int} (hm : 1 ≤ m) (hk : 0 < k) : cnt kind 0 m k = 0 := by
  unfold cnt
  rw [Int.zero_ediv, Int.zero_emod, rest_none kind hm hk, Int.zero_mul, Int.zero_add]
theorem must_first (kind : Int) {m k : Int} (hm : 1 ≤ m) (hk : m ≤ k) : must kind 0 m k = true := by
  have h := cnt_step kind (n := 0) hm hk
  cases e : must kind 0 m k with
  | true => rfl
  | false =>
    exfalso
    have e1 := must_no kind hm hk e
    rw [cnt_none kind hm (by omega), cnt_next kind hm hk, Int.zero_ediv, Int.zero_emod, Int.zero_mul] at e1
    revert e1
    unfold rest
    split
    · rw [show (0 + 1) * m + k - 1 = (m - 1) + 1 * k by omega, Int.add_mul_ediv_right _ _ (by omega)]
      have := Int.ediv_nonneg (show 0 ≤ m - 1 by omega) (show 0 ≤ k by omega)
      omega
    · split <;> omega
theorem cnt_all (kind : Int) {n k : Int} (hk : 0 < k) : cnt kind n k k = n := by
  have e := Int.mul_ediv_add_emod n k
  have l := Int.emod_nonneg n (show k ≠ 0 by omega)
  have l2 := Int.emod_lt_of_pos n hk
  have h2 := all_of (m := n % k) hk
  rw [Int.mul_comm k (n % k)] at h2
  unfold cnt rest
  rw [Int.mul_comm (n / k) k]
  split
  · rw [h2]; exact e
  · exact e
theorem must_all (kind : Int) {n k : Int} (hk : 0 < k) : must kind n k k = true := by
  unfold must
  rw [cnt_all kind hk, cnt_all kind hk]
  exact decide_eq_true (by omega)
theorem cnt_low (kind : Int) {n m k : Int} (hn : 0 ≤ n) (hm : 1 ≤ m) (hk : m ≤ k) : 0 ≤ cnt kind n m k := by
  have a := Int.mul_nonneg (Int.ediv_nonneg hn (show 0 ≤ k by omega)) (show 0 ≤ m by omega)
  have b := rest_low kind (Int.emod_nonneg n (show k ≠ 0 by omega)) hm hk
  unfold cnt
  omega
theorem cnt_high (kind : Int) {n m k : Int} (hn : 0 ≤ n) (hm : 1 ≤ m) (hk : m ≤ k) : cnt kind n m k ≤ n := by
  have e := Int.mul_ediv_add_emod n k
  have a := Int.mul_le_mul_of_nonneg_left hk (Int.ediv_nonneg hn (show 0 ≤ k by omega))
  have b := rest_high kind (Int.emod_nonneg n (show k ≠ 0 by omega)) hm hk
  unfold cnt
  rw [Int.mul_comm k] at e
  omega
theorem rest_more (kind : Int) {r m k : Int} (hr : 0 ≤ r) (hk : 0 < k) : rest kind r m k ≤ rest kind r (m + 1) k := by
  unfold rest
  split
  · rw [Int.mul_add, Int.mul_one]
    exact Int.ediv_le_ediv hk (by omega)
  · (repeat' split) <;> omega
theorem cnt_more (kind : Int) {n m k : Int} (hn : 0 ≤ n) (hk : 0 < k) : cnt kind n m k ≤ cnt kind n (m + 1) k := by
  have a := Int.ediv_nonneg hn (show 0 ≤ k by omega)
  have b := rest_more kind (m := m) (Int.emod_nonneg n (show k ≠ 0 by omega)) hk
  unfold cnt
  rw [Int.mul_add, Int.mul_one]
  omega
theorem cnt_less {n m k : Int} (hm : 1 ≤ m) (hk : m ≤ k) : cnt 1 n m k ≤ cnt 2 n m k := by
  have l := Int.emod_nonneg n (show k ≠ 0 by omega)
  have l2 := Int.emod_lt_of_pos n (show 0 < k by omega)
  have h1 := rest_high 1 l hm hk
  have h2 : rest 1 (n % k) m k ≤ m := by
    have h3 : n % k * m ≤ k * m := Int.mul_le_mul_of_nonneg_right (by omega) (by omega)
    have h4 := all_of (m := m) (show 0 < k by omega)
    unfold rest
    rw [if_pos rfl]
    exact Int.le_trans (Int.ediv_le_ediv (by omega) (show n % k * m + k - 1 ≤ k * m + k - 1 by omega)) (by omega)
  have h5 : rest 2 (n % k) m k = if n % k < m then n % k else m := by unfold rest; rw [if_neg (by decide)]
  unfold cnt
  rw [h5]
  split <;> omega
/-- Of Deep the first ones of each k. -/
theorem must_deep {i m k : Int} (hi : 0 ≤ i) (hik : i < k) (hm : 1 ≤ m) (hk : m ≤ k) : must 2 i m k = decide (i < m) := by
  have e : i % k = i := Int.emod_eq_of_lt hi hik
  have z : i / k = 0 := Int.ediv_eq_zero_of_lt hi hik
  have r : ∀ r, rest 2 r m k = if r < m then r else m := fun r => by unfold rest; rw [if_neg (by decide)]
  unfold must
  rw [cnt_next 2 hm hk]
  unfold cnt
  rw [e, z, r, r]
  exact decide_eq_decide.2 (by (repeat' split) <;> omega)
/-- The sum rounded up at once. -/
theorem cnt_even {n m k : Int} (hk : 0 < k) : (n * m + k - 1) / k = cnt 1 n m k := by
  have e := Int.mul_ediv_add_emod n k
  have h : n * m + k - 1 = (n % k * m + k - 1) + n / k * m * k := by
    have : n * m = (k * (n / k) + n % k) * m := by rw [e]
    rw [this, Int.add_mul, Int.mul_comm k (n / k), Int.mul_right_comm]
    omega
  unfold cnt rest
  rw [if_pos rfl, h, Int.add_mul_ediv_right _ _ (by omega)]
  omega
theorem cnt_deep {n m k : Int} : cnt 2 n m k = n / k * m + if n % k < m then n % k else m := by
  unfold cnt rest
  rw [if_neg (by decide)]
theorem cnt_deep_min {n m k : Int} : cnt 2 n m k = n / k * m + min (n % k) m := by
  rw [cnt_deep, Int.min_def]
  (repeat' split) <;> omega
end Go.Proofs.Ythdjflmligoelaa.Nu
