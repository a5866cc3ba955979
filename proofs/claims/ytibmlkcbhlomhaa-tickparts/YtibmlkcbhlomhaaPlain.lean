/- The plain numbers behind layer 1 (checked sums, products, quotients, common multiples): definitions over whole numbers, and facts on them. No program here. -/
namespace Go.Proofs.Ytibmlkcbhlomhaa.Tk

def addB (a b : Int) : Bool := decide (0 ≤ a ∧ 0 ≤ b ∧ a + b ≤ 4611686018427387904)
def addV (a b : Int) : Int := if addB a b then a + b else 0
def mulB (a b : Int) : Bool := decide (0 ≤ a ∧ 0 ≤ b ∧ a ≤ 4611686018427387904 ∧ b ≤ 4611686018427387904 ∧ a * b ≤ 4611686018427387904)
def mulV (a b : Int) : Int := if mulB a b then a * b else 0
def ceilB (a b : Int) : Bool := decide (0 ≤ a ∧ a ≤ 4611686018427387904 ∧ 0 < b ∧ b ≤ 4611686018427387904)
def ceilV (a b : Int) : Int := if ceilB a b then (a + b - 1) / b else 0

theorem add_yes {a b : Int} (h0 : 0 ≤ a) (h1 : 0 ≤ b) (h2 : a + b ≤ 4611686018427387904) : addB a b = true ∧ addV a b = a + b := by
  have : addB a b = true := by simp [addB]; omega
  exact ⟨this, by simp [addV, this]⟩
theorem add_no {a b : Int} (h : ¬ (0 ≤ a ∧ 0 ≤ b ∧ a + b ≤ 4611686018427387904)) : addB a b = false ∧ addV a b = 0 := by
  have : addB a b = false := by simp only [addB, decide_eq_false_iff_not]; exact h
  exact ⟨this, by simp [addV, this]⟩
theorem mul_yes {a b : Int} (h0 : 0 ≤ a) (h1 : 0 ≤ b) (h2 : a ≤ 4611686018427387904) (h3 : b ≤ 4611686018427387904) (h4 : a * b ≤ 4611686018427387904) : mulB a b = true ∧ mulV a b = a * b := by
  have : mulB a b = true := by simp only [mulB, decide_eq_true_eq]; exact ⟨h0, h1, h2, h3, h4⟩
  exact ⟨this, by simp [mulV, this]⟩
theorem mul_no {a b : Int} (h : ¬ (0 ≤ a ∧ 0 ≤ b ∧ a ≤ 4611686018427387904 ∧ b ≤ 4611686018427387904 ∧ a * b ≤ 4611686018427387904)) : mulB a b = false ∧ mulV a b = 0 := by
  have : mulB a b = false := by simp only [mulB, decide_eq_false_iff_not]; exact h
  exact ⟨this, by simp [mulV, this]⟩
theorem ceil_yes {a b : Int} (h0 : 0 ≤ a) (h1 : a ≤ 4611686018427387904) (h2 : 0 < b) (h3 : b ≤ 4611686018427387904) : ceilB a b = true ∧ ceilV a b = (a + b - 1) / b := by
  have : ceilB a b = true := by simp only [ceilB, decide_eq_true_eq]; exact ⟨h0, h1, h2, h3⟩
  exact ⟨this, by simp [ceilV, this]⟩
theorem ceil_no {a b : Int} (h : ¬ (0 ≤ a ∧ a ≤ 4611686018427387904 ∧ 0 < b ∧ b ≤ 4611686018427387904)) : ceilB a b = false ∧ ceilV a b = 0 := by
  have : ceilB a b = false := by simp only [ceilB, decide_eq_false_iff_not]; exact h
  exact ⟨this, by simp [ceilV, this]⟩

/-- The quotient rounded up, out of the quotient rounded down and the rest. -/
theorem ceil_rest {a b : Int} (h2 : 0 < b) (hr : 0 < a % b) : (a + b - 1) / b = a / b + 1 := by
  have e := Int.mul_ediv_add_emod a b
  have l := Int.emod_lt_of_pos a h2
  have : a + b - 1 = (a % b - 1) + (a / b + 1) * b := by rw [Int.add_mul, Int.one_mul, Int.mul_comm (a / b) b]; omega
  rw [this, Int.add_mul_ediv_right _ _ (by omega), Int.ediv_eq_zero_of_lt (by omega) (by omega)]; omega
theorem ceil_even {a b : Int} (h2 : 0 < b) (hr : a % b = 0) : (a + b - 1) / b = a / b := by
  have e := Int.mul_ediv_add_emod a b
  have : a + b - 1 = (b - 1) + (a / b) * b := by rw [Int.mul_comm (a / b) b]; omega
  rw [this, Int.add_mul_ediv_right _ _ (by omega), Int.ediv_eq_zero_of_lt (by omega) (by omega)]; omega
theorem ceil_less {a b : Int} (h2 : 0 < b) : (a + b - 1) / b = (a - 1) / b + 1 := by
  have : a + b - 1 = (a - 1) + 1 * b := by omega
  rw [this, Int.add_mul_ediv_right _ _ (by omega)]
theorem ceil_zero {b : Int} (h2 : 0 < b) : (0 + b - 1) / b = 0 := by
  rw [show (0 : Int) + b - 1 = b - 1 by omega]; exact Int.ediv_eq_zero_of_lt (by omega) (by omega)
/-- Where a product is over, the quotient says so; and the other way round. -/
theorem mul_le_iff {a b m : Int} (ha : 0 < a) : b ≤ m / a ↔ a * b ≤ m := by
  rw [Int.le_ediv_iff_mul_le ha, Int.mul_comm]
end Go.Proofs.Ytibmlkcbhlomhaa.Tk
