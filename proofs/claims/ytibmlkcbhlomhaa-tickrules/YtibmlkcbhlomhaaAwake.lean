/- The statements' own first look at the program (fixed answers), as a contract: it says true, and only makes new memory. -/
import Derived.Test.YtibmlkcbhlomhaaLcm
import Derived.Test.YtibmlkcbhlomhaaSum
namespace Go.Proofs.Ytibmlkcbhlomhaa
open Go.RowKit

namespace Tk
theorem k_ceil : ceilV 7 2 = 4 ∧ ceilB 7 2 = true := by decide +kernel
theorem k_lcm : lcmV 4 6 100 = 12 ∧ lcmB 4 6 100 = true := by decide +kernel
theorem k_lcm' : lcmV 4 6 11 = 0 ∧ lcmB 4 6 11 = false := by decide +kernel
theorem k_add : addV 4611686018427387904 0 = 4611686018427387904 ∧ addB 4611686018427387904 0 = true := by decide +kernel
theorem k_mul : mulV 1099511627776 1099511627776 = 0 ∧ mulB 1099511627776 1099511627776 = false := by decide +kernel
theorem k_sum : sumV [1, 2, 3] = 6 ∧ sumB [1, 2, 3] = true := by decide +kernel
end Tk

/-- 'true', and nothing that was there has turned. -/
def Woke (w : World) (e : Ending) (w' : World) : Prop := e = .returned (.bool true) ∧ Below w.heap.size w w'

theorem three (w : World) (i : Nat) (h : i < 3) : (w.alloc (.cells #[.int .i64 1, .int .i64 2, .int .i64 3] 3)).cell? ⟨w.heap.size, 0 + i, none⟩ = some (.int .i64 (([1, 2, 3] : List Int).getD i 0)) := by
  match i, h with
  | 0, _ => go_simp
  | 1, _ => go_simp
  | 2, _ => go_simp

set_option maxHeartbeats 1000000 in
theorem awake_any (w : World) : Calls Try.prog 9 #[] w (Woke w) := by
  go_enter Try.func9, Try.ntmps9
  go_wp2_with (fail)
  refine (Ceil_any _ _ _).mono ?_
  rintro e w' ⟨rfl, rfl⟩
  rw [Tk.k_ceil.1, Tk.k_ceil.2]
  go_wp2_with (fail)
  refine (Lcm_any _ _ _ _).mono ?_
  rintro e w' ⟨rfl, n1, rfl⟩
  rw [Tk.k_lcm.1, Tk.k_lcm.2]
  go_wp2_with (fail)
  refine (Lcm_any _ _ _ _).mono ?_
  rintro e w' ⟨rfl, n2, rfl⟩
  rw [Tk.k_lcm'.1, Tk.k_lcm'.2]
  go_wp2_with (fail)
  refine (Add_any _ _ _).mono ?_
  rintro e w' ⟨rfl, rfl⟩
  rw [Tk.k_add.1, Tk.k_add.2]
  go_wp2_with (fail)
  refine (Mul_any _ _ _).mono ?_
  rintro e w' ⟨rfl, rfl⟩
  rw [Tk.k_mul.1, Tk.k_mul.2]
  go_wp2_with (fail)
  refine (Sum_some _ _ _ _ [1, 2, 3] _ rfl (by decide +kernel) (three _)).mono ?_
  rintro e w' ⟨rfl, rfl⟩
  rw [Tk.k_sum.1, Tk.k_sum.2]
  go_wp2
  go_ret
  exact ⟨rfl, (below_drewN (Below.refl _ _) _).alloc (Nat.le_refl _) _⟩
end Go.Proofs.Ytibmlkcbhlomhaa
