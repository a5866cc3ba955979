/- The document's own product by halves, as a contract: for all numbers it returns the plain product and whether it is a time. -/
import Derived.Test.YtibmlkcbhlomhaaLeaf
namespace Go.Proofs.Ytibmlkcbhlomhaa
open Go.RowKit

theorem halves (h l x y : Int) : (2147483648 * h + l) * (2147483648 * x + y) = 4611686018427387904 * (h * x) + 2147483648 * (h * y + l * x) + l * y := by
  simp only [Int.add_mul, Int.mul_add]
  have e1 : 2147483648 * h * (2147483648 * x) = 4611686018427387904 * (h * x) := by
    rw [Int.mul_assoc, Int.mul_left_comm h, ← Int.mul_assoc]; rfl
  have e2 : 2147483648 * h * y = 2147483648 * (h * y) := Int.mul_assoc _ _ _
  have e3 : l * (2147483648 * x) = 2147483648 * (l * x) := Int.mul_left_comm _ _ _
  rw [e1, e2, e3]; omega

theorem prod_le {a b A B : Int} (ha : 0 ≤ a) (hb : 0 ≤ b) (hA : a ≤ A) (hB : b ≤ B) : 0 ≤ a * b ∧ a * b ≤ A * B :=
  ⟨Int.mul_nonneg ha hb, Int.mul_le_mul hA hB hb (Int.le_trans ha hA)⟩

set_option maxHeartbeats 1000000 in
theorem refMul_core (a b h l x y : Int) (w : World) (a0 : 0 ≤ a) (a1 : a ≤ 4611686018427387904) (b0 : 0 ≤ b) (b1 : b ≤ 4611686018427387904)
    (eh : a / 2147483648 = h) (el : a % 2147483648 = l) (ex : b / 2147483648 = x) (ey : b % 2147483648 = y) :
    Calls Try.prog 14 #[.int .i64 a, .int .i64 b] w (Ans (Tk.mulV a b) (Tk.mulB a b) w) := by
  have h0 : 0 ≤ h := by omega
  have h1 : h ≤ 2147483648 := by omega
  have l0 : 0 ≤ l := by omega
  have l1 : l ≤ 2147483647 := by omega
  have x0 : 0 ≤ x := by omega
  have x1 : x ≤ 2147483648 := by omega
  have y0 : 0 ≤ y := by omega
  have y1 : y ≤ 2147483647 := by omega
  have P := Lib.hid (show a * b = 4611686018427387904 * (h * x) + 2147483648 * (h * y + l * x) + l * y by
    rw [← halves, show a = 2147483648 * h + l by omega, show b = 2147483648 * x + y by omega])
  obtain ⟨hx0, hx1⟩ := prod_le h0 x0 h1 x1
  obtain ⟨hy0, hy1⟩ := prod_le h0 y0 h1 y1
  obtain ⟨lx0, lx1⟩ := prod_le l0 x0 l1 x1
  obtain ⟨ly0, ly1⟩ := prod_le l0 y0 l1 y1
  simp only [Int.reduceMul] at hx1 hy1 lx1 ly1
  by_cases hb : 0 < h ∧ 0 < x
  · obtain ⟨hp, xp⟩ := hb
    have hxp : 0 < h * x := Int.mul_pos hp xp
    by_cases c1 : 1 < h * x
    · have H := Lib.hid (Tk.mul_no (a := a) (b := b) (by have := P.out; omega))
      go_enter Try.func14, Try.ntmps14
      go_wp2_with (go_at_call 18; refine (Time_yes _ _ (by omega) (by omega)).mono ?_; rintro e w' ⟨rfl, rfl⟩)
      go_ret2
      exact ⟨ret2 H.out.2.symm H.out.1.symm, rfl⟩
    · by_cases c2 : 0 < h * y + l * x
      · have H := Lib.hid (Tk.mul_no (a := a) (b := b) (by have := P.out; omega))
        have k1 : decide (1 < h * x) = false := by simp; omega
        go_enter Try.func14, Try.ntmps14
        go_wp2_with (go_at_call 18; refine (Time_yes _ _ (by omega) (by omega)).mono ?_; rintro e w' ⟨rfl, rfl⟩)
        go_ret2
        exact ⟨ret2 H.out.2.symm H.out.1.symm, rfl⟩
      · have k1 : decide (1 < h * x) = false := by simp; omega
        have k2 : decide (0 < h * y + l * x) = false := by simp; omega
        by_cases c3 : 0 < l * y
        · have H := Lib.hid (Tk.mul_no (a := a) (b := b) (by have := P.out; omega))
          go_enter Try.func14, Try.ntmps14
          go_wp2_with (go_at_call 18; refine (Time_yes _ _ (by omega) (by omega)).mono ?_; rintro e w' ⟨rfl, rfl⟩)
          go_ret2
          exact ⟨ret2 H.out.2.symm H.out.1.symm, rfl⟩
        · have H := Lib.hid (Tk.mul_yes (a := a) (b := b) a0 b0 a1 b1 (by have := P.out; omega))
          have H2 := Lib.hid (show a * b = 4611686018427387904 by have := P.out; omega)
          have k3 : decide (0 < l * y) = false := by simp; omega
          go_enter Try.func14, Try.ntmps14
          go_wp2_with (go_at_call 18; refine (Time_yes _ _ (by omega) (by omega)).mono ?_; rintro e w' ⟨rfl, rfl⟩)
          go_ret2
          exact ⟨ret2 (by rw [H.out.2, H2.out]) H.out.1.symm, rfl⟩
  · have hz : h * x = 0 := by
      rcases Int.lt_or_le 0 h with p | p
      · rw [show x = 0 by omega]; simp
      · rw [show h = 0 by omega]; simp
    have HZ := Lib.hid hz
    clear hz hx0 hx1
    have hg : decide (0 < h) = false ∨ decide (0 < h) = true ∧ decide (0 < x) = false := by simp; omega
    clear hb
    by_cases c1 : 2147483648 < h * y + l * x
    · have H := Lib.hid (Tk.mul_no (a := a) (b := b) (by have := P.out; have := HZ.out; omega))
      rcases hg with hg | ⟨hg, hg2⟩
      all_goals
        go_enter Try.func14, Try.ntmps14
        go_wp2_with (go_at_call 18; refine (Time_yes _ _ (by omega) (by omega)).mono ?_; rintro e w' ⟨rfl, rfl⟩)
        go_ret2
        exact ⟨ret2 H.out.2.symm H.out.1.symm, rfl⟩
    · by_cases c2 : h * y + l * x = 2147483648 ∧ 0 < l * y
      · have H := Lib.hid (Tk.mul_no (a := a) (b := b) (by have := P.out; have := HZ.out; omega))
        have k2 : (h * y + l * x == 2147483648) = true := by simp; omega
        have c3 : 0 < l * y := c2.2
        clear c2
        rcases hg with hg | ⟨hg, hg2⟩
        all_goals
          go_enter Try.func14, Try.ntmps14
          go_wp2_with (go_at_call 18; refine (Time_yes _ _ (by omega) (by omega)).mono ?_; rintro e w' ⟨rfl, rfl⟩)
          go_ret2
          exact ⟨ret2 H.out.2.symm H.out.1.symm, rfl⟩
      · have k2 : (h * y + l * x == 2147483648) = false ∨ (h * y + l * x == 2147483648) = true ∧ decide (0 < l * y) = false := by simp; omega
        clear c2
        by_cases c3 : 4611686018427387904 - (h * y + l * x) * 2147483648 < l * y
        · have H := Lib.hid (Tk.mul_no (a := a) (b := b) (by have := P.out; have := HZ.out; omega))
          rcases hg with hg | ⟨hg, hg2⟩ <;> rcases k2 with k2 | ⟨k2, k3⟩
          all_goals
            go_enter Try.func14, Try.ntmps14
            go_wp2_with (go_at_call 18; refine (Time_yes _ _ (by omega) (by omega)).mono ?_; rintro e w' ⟨rfl, rfl⟩)
            go_ret2
            exact ⟨ret2 H.out.2.symm H.out.1.symm, rfl⟩
        · have H := Lib.hid (Tk.mul_yes (a := a) (b := b) a0 b0 a1 b1 (by have := P.out; have := HZ.out; omega))
          have H2 := Lib.hid (show a * b = (h * y + l * x) * 2147483648 + l * y by have := P.out; have := HZ.out; omega)
          have k4 : decide (4611686018427387904 - (h * y + l * x) * 2147483648 < l * y) = false := by simp; omega
          rcases hg with hg | ⟨hg, hg2⟩ <;> rcases k2 with k2 | ⟨k2, k3⟩
          all_goals
            go_enter Try.func14, Try.ntmps14
            go_wp2_with (go_at_call 18; refine (Time_yes _ _ (by omega) (by omega)).mono ?_; rintro e w' ⟨rfl, rfl⟩)
            go_ret2
            exact ⟨ret2 (by rw [H.out.2, H2.out]) H.out.1.symm, rfl⟩

set_option maxHeartbeats 400000 in
theorem refMul_any (a b : Int) (w : World) : Calls Try.prog 14 #[.int .i64 a, .int .i64 b] w (Ans (Tk.mulV a b) (Tk.mulB a b) w) := by
  by_cases ha : 0 ≤ a ∧ a ≤ 4611686018427387904
  · obtain ⟨a0, a1⟩ := ha
    by_cases hb : 0 ≤ b ∧ b ≤ 4611686018427387904
    · exact refMul_core a b _ _ _ _ w a0 a1 hb.1 hb.2 rfl rfl rfl rfl
    · have H := Lib.hid (Tk.mul_no (a := a) (b := b) (by omega))
      go_enter Try.func14, Try.ntmps14
      go_wp2_with (go_at_call 18; first | ((with_reducible refine (Time_yes _ _ a0 a1).mono ?_); rintro e w' ⟨rfl, rfl⟩) | ((with_reducible refine (Time_no _ _ (by omega)).mono ?_); rintro e w' ⟨rfl, rfl⟩))
      go_ret2
      exact ⟨ret2 H.out.2.symm H.out.1.symm, rfl⟩
  · have H := Lib.hid (Tk.mul_no (a := a) (b := b) (by omega))
    go_enter Try.func14, Try.ntmps14
    go_wp2_with (go_at_call 18; refine (Time_no _ _ (by omega)).mono ?_; rintro e w' ⟨rfl, rfl⟩)
    go_ret2
    exact ⟨ret2 H.out.2.symm H.out.1.symm, rfl⟩
end Go.Proofs.Ytibmlkcbhlomhaa
