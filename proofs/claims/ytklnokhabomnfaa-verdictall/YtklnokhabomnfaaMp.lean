/- How many bursts have a fault in w ticks at most, plain. -/
import Derived.Test.YtklnokhabomnfaaMem
namespace Go.Proofs.Ytklnokhabomnfaa
set_option linter.unusedVariables false

/-- So many bursts have a fault in w ticks, at most. -/
def mostF (w b g : Int) : Int := if w = 0 then 0 else (w + b - 2) / g + 1
theorem mostF_zero (b g : Int) : mostF 0 b g = 0 := rfl
theorem mostF_pos {w : Int} (h : 1 ≤ w) (b g : Int) : mostF w b g = (w + b - 2) / g + 1 := by unfold mostF; rw [if_neg (by omega)]
theorem mostF_nonneg {w b g : Int} (h0 : 0 ≤ w) (hb : 1 ≤ b) (hg : 1 ≤ g) : 0 ≤ mostF w b g := by
  unfold mostF
  split
  · omega
  · have := Int.ediv_nonneg (a := w + b - 2) (b := g) (by omega) (by omega); omega
theorem mostF_most {w b g : Int} (h0 : 0 ≤ w) (hb : 1 ≤ b) (hg : 1 ≤ g) : mostF w b g ≤ w + b := by
  unfold mostF
  split
  · omega
  · have := Int.ediv_le_self (a := w + b - 2) g (by omega); omega
theorem mostF_more {w b g : Int} (h0 : 0 ≤ w) (hb : 1 ≤ b) (hg : 1 ≤ g) : mostF w b g ≤ mostF (w + 1) b g := by
  by_cases hw : w = 0
  · subst hw
    rw [mostF_zero]
    exact mostF_nonneg (by omega) hb hg
  · rw [mostF_pos (by omega), mostF_pos (by omega)]
    have := Int.ediv_le_ediv (c := g) (a := w + b - 2) (b := w + 1 + b - 2) (by omega) (by omega)
    omega
theorem mostF_less {w b g k : Int} (h0 : 0 ≤ w) (hb : 1 ≤ b) (hk : 1 ≤ k) (hkg : k ≤ g) : mostF w b g ≤ mostF w b k := by
  by_cases hw : w = 0
  · subst hw; exact Int.le_refl _
  · rw [mostF_pos (by omega), mostF_pos (by omega)]
    have h1 : 0 ≤ (w + b - 2) / g := Int.ediv_nonneg (by omega) (by omega)
    have h2 : (w + b - 2) / g * g ≤ w + b - 2 := Int.ediv_mul_le _ (by omega)
    have h3 : (w + b - 2) / g * k ≤ (w + b - 2) / g * g := Int.mul_le_mul_of_nonneg_left hkg h1
    have h4 : (w + b - 2) / g ≤ (w + b - 2) / k := (Int.le_ediv_iff_mul_le (by omega)).2 (by omega)
    omega
/-- The quotient rounded up, as tick has it. -/
theorem ceil_eq {a g : Int} (ha : 1 ≤ a) (hg : 1 ≤ g) : (a - 1) / g + 1 = a / g + (if 0 < a % g then 1 else 0) := by
  have e1 := Int.mul_ediv_add_emod a g
  have e2 := Int.mul_ediv_add_emod (a - 1) g
  have r1 := Int.emod_nonneg a (b := g) (by omega)
  have r2 := Int.emod_lt_of_pos a (b := g) (by omega)
  split
  · have : (a - 1) / g = a / g := by
      have h : a - 1 = (a % g - 1) + g * (a / g) := by omega
      rw [h, Int.add_mul_ediv_left _ _ (by omega), Int.ediv_eq_zero_of_lt (by omega) (by omega)]
      omega
    omega
  · have : (a - 1) / g = a / g - 1 := by
      have h : a - 1 = (g - 1) + g * (a / g - 1) := by rw [Int.mul_sub, Int.mul_one]; omega
      rw [h, Int.add_mul_ediv_left _ _ (by omega), Int.ediv_eq_zero_of_lt (by omega) (by omega)]
      omega
    omega
end Go.Proofs.Ytklnokhabomnfaa
