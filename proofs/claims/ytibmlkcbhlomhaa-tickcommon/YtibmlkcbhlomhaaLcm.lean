/- The least common multiple in package tick, as a contract: for all numbers and limits it returns the plain multiple and true, or 0 and false. -/
import Derived.Test.YtibmlkcbhlomhaaGcd
namespace Go.Proofs.Ytibmlkcbhlomhaa
open Go.RowKit

namespace Tk
def lcmOk (a b : Int) : Bool := decide (0 < a ∧ a ≤ 4611686018427387904 ∧ 0 < b ∧ b ≤ 4611686018427387904)
def lcmW (a b : Int) : Int := mulV (a / (Int.gcd a b : Int)) b
def lcmF (a b : Int) : Bool := mulB (a / (Int.gcd a b : Int)) b
def lcmB (a b most : Int) : Bool := lcmOk a b && (lcmF a b && decide (lcmW a b ≤ most))
def lcmV (a b most : Int) : Int := if lcmB a b most then lcmW a b else 0
theorem lcm_bad {a b : Int} (most : Int) (h : ¬ (0 < a ∧ a ≤ 4611686018427387904 ∧ 0 < b ∧ b ≤ 4611686018427387904)) : lcmB a b most = false ∧ lcmV a b most = 0 := by
  have : lcmB a b most = false := by simp only [lcmB, lcmOk, decide_eq_false h, Bool.false_and]
  exact ⟨this, by simp [lcmV, this]⟩
theorem lcm_ok {a b : Int} (h : 0 < a ∧ a ≤ 4611686018427387904 ∧ 0 < b ∧ b ≤ 4611686018427387904) : lcmOk a b = true := by
  simp only [lcmOk, decide_eq_true h]
theorem lcm_over {a b : Int} (most : Int) (h : lcmF a b = false) : lcmB a b most = false ∧ lcmV a b most = 0 := by
  have : lcmB a b most = false := by simp only [lcmB, h, Bool.false_and, Bool.and_false]
  exact ⟨this, by simp [lcmV, this]⟩
theorem lcm_above {a b most : Int} (h : most < lcmW a b) : lcmB a b most = false ∧ lcmV a b most = 0 := by
  have : lcmB a b most = false := by simp only [lcmB, decide_eq_false (Int.not_le.2 h), Bool.and_false]
  exact ⟨this, by simp [lcmV, this]⟩
theorem lcm_fits {a b most : Int} (h : lcmOk a b = true) (k : lcmF a b = true) (m : lcmW a b ≤ most) : lcmB a b most = true ∧ lcmV a b most = lcmW a b := by
  have : lcmB a b most = true := by simp only [lcmB, h, k, decide_eq_true m, Bool.and_true]
  exact ⟨this, by simp [lcmV, this]⟩
end Tk

/-- As 'Ans', but an order may have been drawn. -/
def AnsD (v : Int) (b : Bool) (w : World) (e : Ending) (w' : World) : Prop := e = .returned (.tuple #[.int .i64 v, .bool b]) ∧ ∃ n, w' = w.drewN n

theorem divisor_int (a b : Int) (w : World) (ha0 : 0 < a) (hb0 : 0 < b) (ha : a ≤ 4611686018427387904) (hb : b ≤ 4611686018427387904) :
    Calls Try.prog 21 #[.int .i64 a, .int .i64 b] w (OneInt (Int.gcd a b : Nat) w) := by
  obtain ⟨x, rfl⟩ := Int.eq_ofNat_of_zero_le (Int.le_of_lt ha0)
  obtain ⟨y, rfl⟩ := Int.eq_ofNat_of_zero_le (Int.le_of_lt hb0)
  exact divisor_any x y w ha hb

theorem gcd_pos (a b : Int) (ha0 : 0 < a) : 0 < ((Int.gcd a b : Nat) : Int) := by
  have := Int.gcd_pos_of_ne_zero_left b (show a ≠ 0 by omega); omega

set_option maxHeartbeats 400000 in
theorem Lcm_any (a b most : Int) (w : World) : Calls Try.prog 17 #[.int .i64 a, .int .i64 b, .int .i64 most] w (AnsD (Tk.lcmV a b most) (Tk.lcmB a b most) w) := by
  by_cases ha : 0 ≤ a ∧ a ≤ 4611686018427387904
  · obtain ⟨a0, a1⟩ := ha
    by_cases hb : 0 ≤ b ∧ b ≤ 4611686018427387904
    · obtain ⟨b0, b1⟩ := hb
      by_cases hz : 0 < a
      · have k0 : (a == 0) = false := by simp; omega
        by_cases hy : 0 < b
        · have k1 : (b == 0) = false := by simp; omega
          have HO := Lib.hid (Tk.lcm_ok ⟨hz, a1, hy, b1⟩)
          have gp := gcd_pos a b hz
          have g0 : ((Int.gcd a b : Nat) : Int) ≤ 4611686018427387904 := by
            have := Int.le_of_dvd hz (Int.gcd_dvd_left a b); omega
          have HF : Hid (Tk.mulB (a / (Int.gcd a b : Int)) b = Tk.lcmF a b) := rfl
          have HW : Hid (Tk.mulV (a / (Int.gcd a b : Int)) b = Tk.lcmW a b) := rfl
          have D := Lib.hid (divisor_int a b · hz hy a1 b1)
          generalize ((Int.gcd a b : Nat) : Int) = g at gp g0 HF HW D
          have gn : (g == 0) = false := by simp; omega
          have q0 : 0 ≤ a / g := Int.ediv_nonneg a0 (Int.le_of_lt gp)
          have q1 : a / g ≤ 4611686018427387904 := Int.le_trans (Int.ediv_le_self _ a0) a1
          cases hF : Tk.lcmF a b
          · have H := Lib.hid (Tk.lcm_over most hF)
            have HF2 := Lib.hid hF
            clear hF
            go_enter Try.func17, Try.ntmps17
            go_wp2_with (first | (go_at_call 20; refine (isTime_yes _ _ (by omega) (by omega)).mono ?_; rintro e w' ⟨rfl, rfl⟩) | (go_at_call 21; refine (D.out _).mono ?_; rintro e w' ⟨rfl, n, rfl⟩) | (go_at_call 11; refine (Mul_any _ _ _).mono ?_; rintro e w' ⟨rfl, rfl⟩; rw [HF.out, HW.out, HF2.out]))
            go_ret2
            exact ⟨ret2 H.out.2.symm H.out.1.symm, _, rfl⟩
          · have HF2 := Lib.hid hF
            clear hF
            by_cases hm : Tk.lcmW a b ≤ most
            · have H := Lib.hid (Tk.lcm_fits HO.out HF2.out hm)
              generalize Tk.lcmW a b = W at HW hm H
              have hd : decide (most < W) = false := by simp; omega
              go_enter Try.func17, Try.ntmps17
              go_wp2_with (first | (go_at_call 20; refine (isTime_yes _ _ (by omega) (by omega)).mono ?_; rintro e w' ⟨rfl, rfl⟩) | (go_at_call 21; refine (D.out _).mono ?_; rintro e w' ⟨rfl, n, rfl⟩) | (go_at_call 11; refine (Mul_any _ _ _).mono ?_; rintro e w' ⟨rfl, rfl⟩; rw [HF.out, HW.out, HF2.out]))
              go_ret2
              exact ⟨ret2 H.out.2.symm H.out.1.symm, _, rfl⟩
            · have H := Lib.hid (Tk.lcm_above (Int.not_le.1 hm))
              generalize Tk.lcmW a b = W at HW hm
              go_enter Try.func17, Try.ntmps17
              go_wp2_with (first | (go_at_call 20; refine (isTime_yes _ _ (by omega) (by omega)).mono ?_; rintro e w' ⟨rfl, rfl⟩) | (go_at_call 21; refine (D.out _).mono ?_; rintro e w' ⟨rfl, n, rfl⟩) | (go_at_call 11; refine (Mul_any _ _ _).mono ?_; rintro e w' ⟨rfl, rfl⟩; rw [HF.out, HW.out, HF2.out]))
              go_ret2
              exact ⟨ret2 H.out.2.symm H.out.1.symm, _, rfl⟩
        · obtain rfl : b = 0 := by omega
          have H := Lib.hid (Tk.lcm_bad (a := a) (b := 0) most (by omega))
          go_enter Try.func17, Try.ntmps17
          go_wp2_with (go_at_call 20; refine (isTime_yes _ _ (by omega) (by omega)).mono ?_; rintro e w' ⟨rfl, rfl⟩)
          go_ret2
          exact ⟨ret2 H.out.2.symm H.out.1.symm, 0, rfl⟩
      · obtain rfl : a = 0 := by omega
        have H := Lib.hid (Tk.lcm_bad (a := 0) (b := b) most (by omega))
        go_enter Try.func17, Try.ntmps17
        go_wp2_with (go_at_call 20; refine (isTime_yes _ _ (by omega) (by omega)).mono ?_; rintro e w' ⟨rfl, rfl⟩)
        go_ret2
        exact ⟨ret2 H.out.2.symm H.out.1.symm, 0, rfl⟩
    · have H := Lib.hid (Tk.lcm_bad (a := a) (b := b) most (by omega))
      go_enter Try.func17, Try.ntmps17
      go_wp2_with (go_at_call 20; first | ((with_reducible refine (isTime_yes _ _ a0 a1).mono ?_); rintro e w' ⟨rfl, rfl⟩) | ((with_reducible refine (isTime_no _ _ (by omega)).mono ?_); rintro e w' ⟨rfl, rfl⟩))
      go_ret2
      exact ⟨ret2 H.out.2.symm H.out.1.symm, 0, rfl⟩
  · have H := Lib.hid (Tk.lcm_bad (a := a) (b := b) most (by omega))
    go_enter Try.func17, Try.ntmps17
    go_wp2_with (go_at_call 20; refine (isTime_no _ _ (by omega)).mono ?_; rintro e w' ⟨rfl, rfl⟩)
    go_ret2
    exact ⟨ret2 H.out.2.symm H.out.1.symm, 0, rfl⟩
end Go.Proofs.Ytibmlkcbhlomhaa
