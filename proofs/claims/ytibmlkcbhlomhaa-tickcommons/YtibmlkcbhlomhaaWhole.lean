/- Facts on common multiples: a multiple of both numbers; alike in either order. The document's own divisor for whole numbers. -/
import Derived.Test.YtibmlkcbhlomhaaAwake
namespace Go.Proofs.Ytibmlkcbhlomhaa
open Go.RowKit
theorem refGcd_int (a b : Int) (w : World) (ha0 : 0 < a) (hb0 : 0 < b) (ha : a ≤ 4611686018427387904) (hb : b ≤ 4611686018427387904) :
    Calls Try.prog 19 #[.int .i64 a, .int .i64 b] w (PlainInt (Int.gcd a b : Nat) w) := by
  obtain ⟨x, rfl⟩ := Int.eq_ofNat_of_zero_le (Int.le_of_lt ha0)
  obtain ⟨y, rfl⟩ := Int.eq_ofNat_of_zero_le (Int.le_of_lt hb0)
  exact refGcd_any x y w (by omega) (by omega) ha hb
namespace Tk
theorem parts_of (a b g c d : Int) (g0 : g ≠ 0) (hc : b = g * c) (hd : a = g * d) : a / g * b = a * c := by
  subst hc hd
  rw [Int.mul_ediv_cancel_left _ g0, ← Int.mul_assoc, Int.mul_comm d g]
theorem lcm_is {a b : Int} (h : lcmF a b = true) : lcmW a b = a / (Int.gcd a b : Int) * b := by
  unfold lcmW mulV; unfold lcmF at h; rw [if_pos h]
theorem lcm_mod (a b : Int) (ha : 0 < a) : a / (Int.gcd a b : Int) * b % a = 0 := by
  obtain ⟨c, hc⟩ := Int.gcd_dvd_right a b
  obtain ⟨d, hd⟩ := Int.gcd_dvd_left a b
  rw [parts_of a b _ c d (Int.ne_of_gt (gcd_pos a b ha)) hc hd]
  exact Int.mul_emod_right _ _
theorem whole {a b : Int} (ha : 0 < a) (h : lcmF a b = true) : 0 ≤ lcmW a b ∧ lcmW a b ≤ 4611686018427387904 ∧ lcmW a b % a = 0 ∧ lcmW a b % b = 0 := by
  rw [lcm_is h]
  unfold lcmF mulB at h
  simp only [decide_eq_true_eq] at h
  obtain ⟨q0, q1, _, _, q4⟩ := h
  exact ⟨Int.mul_nonneg q0 q1, q4, lcm_mod a b ha, Int.mul_emod_left _ _⟩
end Tk
end Go.Proofs.Ytibmlkcbhlomhaa
