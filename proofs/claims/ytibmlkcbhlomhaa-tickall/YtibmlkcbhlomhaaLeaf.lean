/- The checked sum, product and quotient of package tick, and the document's own, as contracts: for all numbers, each returns the plain value and whether it is a time; nothing in memory is touched. -/
import Derived.Test.YtibmlkcbhlomhaaRows
import Derived.WalkKit
import Derived.Below
import Derived.Lib.Hide
import Derived.Test.YtibmlkcbhlomhaaPlain
namespace Go.Proofs.Ytibmlkcbhlomhaa
open Go.RowKit

theorem ret2 {a a' : Int} {b b' : Bool} (h : a = a') (k : b = b') : Ending.returned (.tuple #[.int .i64 a, .bool b]) = .returned (.tuple #[.int .i64 a', .bool b']) := by rw [h, k]

set_option maxHeartbeats 400000 in
theorem isTime_yes (n : Int) (w : World) (h0 : 0 ≤ n) (h1 : n ≤ 4611686018427387904) :
    Calls Try.prog 20 #[.int .i64 n] w fun e w' => e = .returned (.bool true) ∧ w = w' := by
  go_enter Try.func20, Try.ntmps20
  go_wp2
  go_ret
  exact ⟨rfl, rfl⟩
set_option maxHeartbeats 400000 in
theorem isTime_no (n : Int) (w : World) (h : n < 0 ∨ 4611686018427387904 < n) :
    Calls Try.prog 20 #[.int .i64 n] w fun e w' => e = .returned (.bool false) ∧ w = w' := by
  rcases h with h | h
  · go_enter Try.func20, Try.ntmps20
    go_wp2
    go_ret
    exact ⟨rfl, rfl⟩
  · have k : decide (n ≤ 4611686018427387904) = false := by simp; omega
    have k0 : decide (0 ≤ n) = true := by simp; omega
    go_enter Try.func20, Try.ntmps20
    go_wp2
    go_ret
    exact ⟨rfl, rfl⟩
set_option maxHeartbeats 400000 in
theorem Time_yes (n : Int) (w : World) (h0 : 0 ≤ n) (h1 : n ≤ 4611686018427387904) :
    Calls Try.prog 18 #[.int .i64 n] w fun e w' => e = .returned (.bool true) ∧ w = w' := by
  go_enter Try.func18, Try.ntmps18
  go_wp2
  go_ret
  exact ⟨rfl, rfl⟩
set_option maxHeartbeats 400000 in
theorem Time_no (n : Int) (w : World) (h : n < 0 ∨ 4611686018427387904 < n) :
    Calls Try.prog 18 #[.int .i64 n] w fun e w' => e = .returned (.bool false) ∧ w = w' := by
  rcases h with h | h
  · go_enter Try.func18, Try.ntmps18
    go_wp2
    go_ret
    exact ⟨rfl, rfl⟩
  · have k : decide (n ≤ 4611686018427387904) = false := by simp; omega
    have k0 : decide (0 ≤ n) = true := by simp; omega
    go_enter Try.func18, Try.ntmps18
    go_wp2
    go_ret
    exact ⟨rfl, rfl⟩

/-- What a call of layer 1 answers: a number and whether it is a time; the world stands. -/
def Ans (v : Int) (b : Bool) (w : World) (e : Ending) (w' : World) : Prop := e = .returned (.tuple #[.int .i64 v, .bool b]) ∧ w = w'

set_option maxHeartbeats 400000 in
theorem Add_any (a b : Int) (w : World) : Calls Try.prog 10 #[.int .i64 a, .int .i64 b] w (Ans (Tk.addV a b) (Tk.addB a b) w) := by
  by_cases ha : 0 ≤ a ∧ a ≤ 4611686018427387904
  · obtain ⟨a0, a1⟩ := ha
    by_cases hb : 0 ≤ b ∧ b ≤ 4611686018427387904
    · obtain ⟨b0, b1⟩ := hb
      by_cases hs : a + b ≤ 4611686018427387904
      · have H := Lib.hid (Tk.add_yes a0 b0 hs)
        have k : decide (4611686018427387904 - b < a) = false := by simp; omega
        go_enter Try.func10, Try.ntmps10
        go_wp2_with (go_at_call 20; refine (isTime_yes _ _ (by omega) (by omega)).mono ?_; rintro e w' ⟨rfl, rfl⟩)
        go_ret2
        exact ⟨ret2 H.out.2.symm H.out.1.symm, rfl⟩
      · have H := Lib.hid (Tk.add_no (a := a) (b := b) (by omega))
        have k : decide (4611686018427387904 - b < a) = true := by simp; omega
        go_enter Try.func10, Try.ntmps10
        go_wp2_with (go_at_call 20; refine (isTime_yes _ _ (by omega) (by omega)).mono ?_; rintro e w' ⟨rfl, rfl⟩)
        go_ret2
        exact ⟨ret2 H.out.2.symm H.out.1.symm, rfl⟩
    · have H := Lib.hid (Tk.add_no (a := a) (b := b) (by omega))
      go_enter Try.func10, Try.ntmps10
      go_wp2_with (go_at_call 20; first | ((with_reducible refine (isTime_yes _ _ a0 a1).mono ?_); rintro e w' ⟨rfl, rfl⟩) | ((with_reducible refine (isTime_no _ _ (by omega)).mono ?_); rintro e w' ⟨rfl, rfl⟩))
      go_ret2
      exact ⟨ret2 H.out.2.symm H.out.1.symm, rfl⟩
  · have H := Lib.hid (Tk.add_no (a := a) (b := b) (by omega))
    go_enter Try.func10, Try.ntmps10
    go_wp2_with (go_at_call 20; refine (isTime_no _ _ (by omega)).mono ?_; rintro e w' ⟨rfl, rfl⟩)
    go_ret2
    exact ⟨ret2 H.out.2.symm H.out.1.symm, rfl⟩
set_option maxHeartbeats 400000 in
theorem Mul_any (a b : Int) (w : World) : Calls Try.prog 11 #[.int .i64 a, .int .i64 b] w (Ans (Tk.mulV a b) (Tk.mulB a b) w) := by
  by_cases ha : 0 ≤ a ∧ a ≤ 4611686018427387904
  · obtain ⟨a0, a1⟩ := ha
    by_cases hb : 0 ≤ b ∧ b ≤ 4611686018427387904
    · obtain ⟨b0, b1⟩ := hb
      by_cases hz : 0 < a
      · have hp : 0 ≤ a * b := Int.mul_nonneg a0 b0
        by_cases hs : a * b ≤ 4611686018427387904
        · have H := Lib.hid (Tk.mul_yes a0 b0 a1 b1 hs)
          have k : decide (4611686018427387904 / a < b) = false := by simp; exact (Tk.mul_le_iff hz).2 hs
          go_enter Try.func11, Try.ntmps11
          go_wp2_with (go_at_call 20; refine (isTime_yes _ _ (by omega) (by omega)).mono ?_; rintro e w' ⟨rfl, rfl⟩)
          go_ret2
          exact ⟨ret2 H.out.2.symm H.out.1.symm, rfl⟩
        · have H := Lib.hid (Tk.mul_no (a := a) (b := b) (fun h => hs h.2.2.2.2))
          have k : decide (4611686018427387904 / a < b) = true := by
            simp only [decide_eq_true_eq]; exact Int.not_le.1 fun h => hs ((Tk.mul_le_iff hz).1 h)
          go_enter Try.func11, Try.ntmps11
          go_wp2_with (go_at_call 20; refine (isTime_yes _ _ (by omega) (by omega)).mono ?_; rintro e w' ⟨rfl, rfl⟩)
          go_ret2
          exact ⟨ret2 H.out.2.symm H.out.1.symm, rfl⟩
      · obtain rfl : a = 0 := by omega
        have H := Lib.hid (Tk.mul_yes (a := 0) (b := b) (by omega) b0 (by omega) b1 (by simp))
        go_enter Try.func11, Try.ntmps11
        go_wp2_with (go_at_call 20; refine (isTime_yes _ _ (by omega) (by omega)).mono ?_; rintro e w' ⟨rfl, rfl⟩)
        go_ret2
        exact ⟨ret2 (by rw [H.out.2]; simp) H.out.1.symm, rfl⟩
    · have H := Lib.hid (Tk.mul_no (a := a) (b := b) (by omega))
      go_enter Try.func11, Try.ntmps11
      go_wp2_with (go_at_call 20; first | ((with_reducible refine (isTime_yes _ _ a0 a1).mono ?_); rintro e w' ⟨rfl, rfl⟩) | ((with_reducible refine (isTime_no _ _ (by omega)).mono ?_); rintro e w' ⟨rfl, rfl⟩))
      go_ret2
      exact ⟨ret2 H.out.2.symm H.out.1.symm, rfl⟩
  · have H := Lib.hid (Tk.mul_no (a := a) (b := b) (by omega))
    go_enter Try.func11, Try.ntmps11
    go_wp2_with (go_at_call 20; refine (isTime_no _ _ (by omega)).mono ?_; rintro e w' ⟨rfl, rfl⟩)
    go_ret2
    exact ⟨ret2 H.out.2.symm H.out.1.symm, rfl⟩

set_option maxHeartbeats 400000 in
theorem Ceil_any (a b : Int) (w : World) : Calls Try.prog 12 #[.int .i64 a, .int .i64 b] w (Ans (Tk.ceilV a b) (Tk.ceilB a b) w) := by
  by_cases ha : 0 ≤ a ∧ a ≤ 4611686018427387904
  · obtain ⟨a0, a1⟩ := ha
    by_cases hb : 0 ≤ b ∧ b ≤ 4611686018427387904
    · obtain ⟨b0, b1⟩ := hb
      by_cases hz : 0 < b
      · have H := Lib.hid (Tk.ceil_yes a0 a1 hz b1)
        have k0 : (b == 0) = false := by simp; omega
        have q0 : 0 ≤ a / b := Int.ediv_nonneg a0 b0
        have q1 : a / b ≤ 4611686018427387904 := Int.le_trans (Int.ediv_le_self _ a0) a1
        by_cases hr : 0 < a % b
        · have H2 := Lib.hid (Tk.ceil_rest hz hr)
          have k : decide (0 < a % b) = true := by simpa using hr
          go_enter Try.func12, Try.ntmps12
          go_wp2_with (go_at_call 20; refine (isTime_yes _ _ (by omega) (by omega)).mono ?_; rintro e w' ⟨rfl, rfl⟩)
          go_ret2
          exact ⟨ret2 (by rw [H.out.2, H2.out]) H.out.1.symm, rfl⟩
        · have := Int.emod_nonneg a (show b ≠ 0 by omega)
          have H2 := Lib.hid (Tk.ceil_even hz (show a % b = 0 by omega))
          have k : decide (0 < a % b) = false := by simpa using hr
          clear this
          go_enter Try.func12, Try.ntmps12
          go_wp2_with (go_at_call 20; refine (isTime_yes _ _ (by omega) (by omega)).mono ?_; rintro e w' ⟨rfl, rfl⟩)
          go_ret2
          exact ⟨ret2 (by rw [H.out.2, H2.out]) H.out.1.symm, rfl⟩
      · obtain rfl : b = 0 := by omega
        have H := Lib.hid (Tk.ceil_no (a := a) (b := 0) (by omega))
        go_enter Try.func12, Try.ntmps12
        go_wp2_with (go_at_call 20; refine (isTime_yes _ _ (by omega) (by omega)).mono ?_; rintro e w' ⟨rfl, rfl⟩)
        go_ret2
        exact ⟨ret2 H.out.2.symm H.out.1.symm, rfl⟩
    · have H := Lib.hid (Tk.ceil_no (a := a) (b := b) (by omega))
      go_enter Try.func12, Try.ntmps12
      go_wp2_with (go_at_call 20; first | ((with_reducible refine (isTime_yes _ _ a0 a1).mono ?_); rintro e w' ⟨rfl, rfl⟩) | ((with_reducible refine (isTime_no _ _ (by omega)).mono ?_); rintro e w' ⟨rfl, rfl⟩))
      go_ret2
      exact ⟨ret2 H.out.2.symm H.out.1.symm, rfl⟩
  · have H := Lib.hid (Tk.ceil_no (a := a) (b := b) (by omega))
    go_enter Try.func12, Try.ntmps12
    go_wp2_with (go_at_call 20; refine (isTime_no _ _ (by omega)).mono ?_; rintro e w' ⟨rfl, rfl⟩)
    go_ret2
    exact ⟨ret2 H.out.2.symm H.out.1.symm, rfl⟩

set_option maxHeartbeats 400000 in
theorem refAdd_any (a b : Int) (w : World) : Calls Try.prog 13 #[.int .i64 a, .int .i64 b] w (Ans (Tk.addV a b) (Tk.addB a b) w) := by
  by_cases ha : 0 ≤ a ∧ a ≤ 4611686018427387904
  · obtain ⟨a0, a1⟩ := ha
    by_cases hb : 0 ≤ b ∧ b ≤ 4611686018427387904
    · obtain ⟨b0, b1⟩ := hb
      by_cases hs : a + b ≤ 4611686018427387904
      · have H := Lib.hid (Tk.add_yes a0 b0 hs)
        have k : decide (4611686018427387904 - a < b) = false := by simp; omega
        go_enter Try.func13, Try.ntmps13
        go_wp2_with (go_at_call 18; refine (Time_yes _ _ (by omega) (by omega)).mono ?_; rintro e w' ⟨rfl, rfl⟩)
        go_ret2
        exact ⟨ret2 H.out.2.symm H.out.1.symm, rfl⟩
      · have H := Lib.hid (Tk.add_no (a := a) (b := b) (by omega))
        have k : decide (4611686018427387904 - a < b) = true := by simp; omega
        go_enter Try.func13, Try.ntmps13
        go_wp2_with (go_at_call 18; refine (Time_yes _ _ (by omega) (by omega)).mono ?_; rintro e w' ⟨rfl, rfl⟩)
        go_ret2
        exact ⟨ret2 H.out.2.symm H.out.1.symm, rfl⟩
    · have H := Lib.hid (Tk.add_no (a := a) (b := b) (by omega))
      go_enter Try.func13, Try.ntmps13
      go_wp2_with (go_at_call 18; first | ((with_reducible refine (Time_yes _ _ a0 a1).mono ?_); rintro e w' ⟨rfl, rfl⟩) | ((with_reducible refine (Time_no _ _ (by omega)).mono ?_); rintro e w' ⟨rfl, rfl⟩))
      go_ret2
      exact ⟨ret2 H.out.2.symm H.out.1.symm, rfl⟩
  · have H := Lib.hid (Tk.add_no (a := a) (b := b) (by omega))
    go_enter Try.func13, Try.ntmps13
    go_wp2_with (go_at_call 18; refine (Time_no _ _ (by omega)).mono ?_; rintro e w' ⟨rfl, rfl⟩)
    go_ret2
    exact ⟨ret2 H.out.2.symm H.out.1.symm, rfl⟩

set_option maxHeartbeats 400000 in
theorem refCeil_any (a b : Int) (w : World) : Calls Try.prog 15 #[.int .i64 a, .int .i64 b] w (Ans (Tk.ceilV a b) (Tk.ceilB a b) w) := by
  by_cases ha : 0 ≤ a ∧ a ≤ 4611686018427387904
  · obtain ⟨a0, a1⟩ := ha
    by_cases hb : 0 ≤ b ∧ b ≤ 4611686018427387904
    · obtain ⟨b0, b1⟩ := hb
      by_cases hz : 0 < b
      · have H := Lib.hid (Tk.ceil_yes a0 a1 hz b1)
        have k0 : (b == 0) = false := by simp; omega
        by_cases hr : 0 < a
        · have H2 := Lib.hid (Tk.ceil_less (a := a) hz)
          have q0 : 0 ≤ (a - 1) / b := Int.ediv_nonneg (by omega) b0
          have q1 : (a - 1) / b ≤ 4611686018427387904 := Int.le_trans (Int.ediv_le_self _ (by omega)) (by omega)
          have k : (a == 0) = false := by simp; omega
          go_enter Try.func15, Try.ntmps15
          go_wp2_with (go_at_call 18; refine (Time_yes _ _ (by omega) (by omega)).mono ?_; rintro e w' ⟨rfl, rfl⟩)
          go_ret2
          exact ⟨ret2 (by rw [H.out.2, H2.out]) H.out.1.symm, rfl⟩
        · obtain rfl : a = 0 := by omega
          have H2 := Lib.hid (Tk.ceil_zero hz)
          go_enter Try.func15, Try.ntmps15
          go_wp2_with (go_at_call 18; refine (Time_yes _ _ (by omega) (by omega)).mono ?_; rintro e w' ⟨rfl, rfl⟩)
          go_ret2
          exact ⟨ret2 (by rw [H.out.2, H2.out]) H.out.1.symm, rfl⟩
      · obtain rfl : b = 0 := by omega
        have H := Lib.hid (Tk.ceil_no (a := a) (b := 0) (by omega))
        go_enter Try.func15, Try.ntmps15
        go_wp2_with (go_at_call 18; refine (Time_yes _ _ (by omega) (by omega)).mono ?_; rintro e w' ⟨rfl, rfl⟩)
        go_ret2
        exact ⟨ret2 H.out.2.symm H.out.1.symm, rfl⟩
    · have H := Lib.hid (Tk.ceil_no (a := a) (b := b) (by omega))
      go_enter Try.func15, Try.ntmps15
      go_wp2_with (go_at_call 18; first | ((with_reducible refine (Time_yes _ _ a0 a1).mono ?_); rintro e w' ⟨rfl, rfl⟩) | ((with_reducible refine (Time_no _ _ (by omega)).mono ?_); rintro e w' ⟨rfl, rfl⟩))
      go_ret2
      exact ⟨ret2 H.out.2.symm H.out.1.symm, rfl⟩
  · have H := Lib.hid (Tk.ceil_no (a := a) (b := b) (by omega))
    go_enter Try.func15, Try.ntmps15
    go_wp2_with (go_at_call 18; refine (Time_no _ _ (by omega)).mono ?_; rintro e w' ⟨rfl, rfl⟩)
    go_ret2
    exact ⟨ret2 H.out.2.symm H.out.1.symm, rfl⟩
end Go.Proofs.Ytibmlkcbhlomhaa
