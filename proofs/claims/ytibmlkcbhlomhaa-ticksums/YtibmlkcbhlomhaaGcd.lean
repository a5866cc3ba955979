/- The greatest common divisor in package tick, and the document's own, as contracts. -/
import Derived.Test.YtibmlkcbhlomhaaMul
import Derived.Deep.QuietTactic
import Derived.BigQuiet
import Derived.WalkSmall
namespace Go.Proofs.Ytibmlkcbhlomhaa
open Go.RowKit

def OneInt (n : Int) (w : World) (e : Ending) (w' : World) : Prop := e = .returned (.int .i64 n) ∧ ∃ k, w' = w.drewN k
theorem ret1 {a a' : Int} (h : a = a') : Ending.returned (.int .i64 a) = .returned (.int .i64 a') := by rw [h]

set_option maxHeartbeats 400000 in
theorem divisor_any (a b : Nat) (w : World) (ha : (a : Int) ≤ 4611686018427387904) (hb : (b : Int) ≤ 4611686018427387904) :
    Calls Try.prog 21 #[.int .i64 a, .int .i64 b] w (OneInt (Nat.gcd a b : Nat) w) := by
  go_enter Try.func21, Try.ntmps21
  go_wp2
  go_loopw [0, 1] (fun s t w1 => ∃ x y n : Nat, s = .int .i64 x ∧ t = .int .i64 y ∧ (x : Int) ≤ 4611686018427387904 ∧ (y : Int) ≤ 4611686018427387904 ∧ Hid (Nat.gcd x y = Nat.gcd a b) ∧ w1 = w.drewN n) (fun _ t _ => (intOf t).toNat)
  case atStart => exact ⟨a, b, 0, rfl, rfl, ha, hb, rfl, rfl⟩
  case round =>
    obtain ⟨x, y, n, rfl, rfl, hx, hy, HG, rfl⟩ := hrel
    by_cases hlt : 0 < y
    · have hlt2 : (0 : Int) < (y : Int) := by omega
      have hne : ((y : Int) == 0) = false := by simp; omega
      go_wp2
      go_quiet (fail)
      go_wp2
      go_roundw
      case rel => exact ⟨y, x % y, _, rfl, by rw [Int.natCast_emod], hy, by have := Nat.mod_lt x hlt; omega, by rw [← HG.out, Nat.gcd_comm x y, Nat.gcd_rec y x, Nat.gcd_comm y]; rfl, World.drewN_drewN _ _ _⟩
      case measure => have := Nat.mod_lt x hlt; rw [← Int.natCast_emod]; simp [intOf]; omega
    · obtain rfl : y = 0 := by omega
      go_wp2
      go_ret
      exact ⟨ret1 (by rw [← HG.out]; simp), _, rfl⟩

namespace Tk
theorem odd2 {y : Nat} (h : y % 2 = 1) : Nat.Coprime 2 y := by
  unfold Nat.Coprime; rw [Nat.gcd_rec, h]; rfl
theorem gcd_ee {x y : Nat} (hx : x % 2 = 0) (hy : y % 2 = 0) : Nat.gcd x y = 2 * Nat.gcd (x / 2) (y / 2) := by
  rw [← Nat.gcd_mul_left, show 2 * (x / 2) = x by omega, show 2 * (y / 2) = y by omega]
theorem gcd_eo {x y : Nat} (hx : x % 2 = 0) (hy : y % 2 = 1) : Nat.gcd x y = Nat.gcd (x / 2) y := by
  rw [← Nat.Coprime.gcd_mul_left_cancel (x / 2) (odd2 hy), show 2 * (x / 2) = x by omega]
theorem gcd_oe {x y : Nat} (hx : x % 2 = 1) (hy : y % 2 = 0) : Nat.gcd x y = Nat.gcd x (y / 2) := by
  rw [Nat.gcd_comm, gcd_eo hy hx, Nat.gcd_comm]
theorem gcd_gt {x y : Nat} (h : y ≤ x) : Nat.gcd x y = Nat.gcd (x - y) y := (Nat.gcd_sub_self_left h).symm
theorem gcd_lt {x y : Nat} (h : x ≤ y) : Nat.gcd x y = Nat.gcd x (y - x) := by
  rw [Nat.gcd_comm, gcd_gt h, Nat.gcd_comm]
end Tk

def PlainInt (n : Int) (w : World) (e : Ending) (w' : World) : Prop := e = .returned (.int .i64 n) ∧ w = w'
set_option maxHeartbeats 1000000 in
theorem refGcd_any (a b : Nat) (w : World) (ha0 : 0 < a) (hb0 : 0 < b) (ha : (a : Int) ≤ 4611686018427387904) (hb : (b : Int) ≤ 4611686018427387904) :
    Calls Try.prog 19 #[.int .i64 a, .int .i64 b] w (PlainInt (Nat.gcd a b : Nat) w) := by
  have gl : Nat.gcd a b ≤ a := Nat.le_of_dvd ha0 (Nat.gcd_dvd_left a b)
  generalize hG : Nat.gcd a b = G at gl
  have HG0 := Lib.hid hG
  clear hG
  go_enter Try.func19, Try.ntmps19
  go_wp2
  go_loop [0, 1, 5] (fun s t u => ∃ x y n : Nat, s = .int .i64 x ∧ t = .int .i64 y ∧ u = .int .i64 n ∧ 0 < x ∧ 0 < y ∧ (x : Int) ≤ 4611686018427387904 ∧ (y : Int) ≤ 4611686018427387904 ∧ Hid (n * Nat.gcd x y = G)) (fun s t _ => (intOf s).toNat + (intOf t).toNat)
  case atStart => exact ⟨a, b, 1, rfl, rfl, rfl, ha0, hb0, ha, hb, by show 1 * _ = _; rw [Nat.one_mul]; exact HG0.out⟩
  case round =>
    obtain ⟨x, y, n, rfl, rfl, rfl, hx0, hy0, hx, hy, HG⟩ := hrel
    have gp : 0 < Nat.gcd x y := Nat.gcd_pos_of_pos_left _ hx0
    have nl : n ≤ n * Nat.gcd x y := Nat.le_mul_of_pos_right _ gp
    have nb : n ≤ G := by have := HG.out; omega
    clear nl gp
    by_cases hne : x = y
    · subst hne
      have t1 : ((x : Int) != (x : Int)) = false := by simp
      have HE := Lib.hid (show n * x = G by have := HG.out; rwa [Nat.gcd_self] at this)
      have p0 : (0 : Int) ≤ (x : Int) * (n : Int) := by rw [← Int.natCast_mul]; omega
      have p1 : (x : Int) * (n : Int) ≤ 4611686018427387904 := by rw [← Int.natCast_mul, Nat.mul_comm, HE.out]; omega
      go_wp2
      go_ret
      exact ⟨ret1 (by rw [← Int.natCast_mul, Nat.mul_comm, HE.out]), rfl⟩
    · have t1 : ((x : Int) != (y : Int)) = true := by simp; omega
      have t1' : (x != y) = true := by simp; omega
      by_cases ex : x % 2 = 0 <;> by_cases ey : y % 2 = 0
      · have E := Lib.hid (Tk.gcd_ee ex ey)
        have t2 : ((x : Int) % 2 == 0) = true := by simp; omega
        have t3 : ((y : Int) % 2 == 0) = true := by simp; omega
        have n2 : n * 2 ≤ G := by
          have h := HG.out
          rw [E.out, ← Nat.mul_assoc] at h
          have := Nat.le_mul_of_pos_right (n * 2) (Nat.gcd_pos_of_pos_left (y / 2) (show 0 < x / 2 by omega))
          omega
        have EX := Lib.hid ex
        have EY := Lib.hid ey
        clear ex ey hne
        go_wp2
        go_round
        case rel =>
          have := EX.out; have := EY.out
          exact ⟨x / 2, y / 2, n * 2, by go_num, by go_num, by go_num, by omega, by omega, by omega, by omega, by have h := HG.out; rw [E.out, ← Nat.mul_assoc] at h; exact h⟩
        case measure => have := EX.out; have := EY.out; simp [intOf]; omega
      · have E := Lib.hid (Tk.gcd_eo (y := y) ex (by omega))
        have t2 : ((x : Int) % 2 == 0) = true := by simp; omega
        have t3 : ((y : Int) % 2 == 0) = false := by simp; omega
        have EX := Lib.hid ex
        clear ex ey hne
        go_wp2
        go_round
        case rel =>
          have := EX.out
          exact ⟨x / 2, y, n, by go_num, rfl, rfl, by omega, by omega, by omega, by omega, by have h := HG.out; rw [E.out] at h; exact h⟩
        case measure => have := EX.out; simp [intOf]; omega
      · have E := Lib.hid (Tk.gcd_oe (x := x) (by omega) ey)
        have t2 : ((x : Int) % 2 == 0) = false := by simp; omega
        have t3 : ((y : Int) % 2 == 0) = true := by simp; omega
        have EY := Lib.hid ey
        clear ex ey hne
        go_wp2
        go_round
        case rel =>
          have := EY.out
          exact ⟨x, y / 2, n, rfl, by go_num, rfl, by omega, by omega, by omega, by omega, by have h := HG.out; rw [E.out] at h; exact h⟩
        case measure => have := EY.out; simp [intOf]; omega
      · have t2 : ((x : Int) % 2 == 0) = false := by simp; omega
        have t3 : ((y : Int) % 2 == 0) = false := by simp; omega
        clear ex ey
        by_cases hgt : y < x
        · have E := Lib.hid (Tk.gcd_gt (Nat.le_of_lt hgt))
          have t4 : decide ((y : Int) < (x : Int)) = true := by simp; omega
          clear hne
          go_wp2
          go_round
          case rel => exact ⟨x - y, y, n, by go_num, rfl, rfl, by omega, by omega, by omega, by omega, by have h := HG.out; rw [E.out] at h; exact h⟩
          case measure => simp [intOf]; omega
        · have E := Lib.hid (Tk.gcd_lt (Nat.le_of_not_lt hgt))
          have t4 : decide ((y : Int) < (x : Int)) = false := by simp; omega
          have t4' : decide (y < x) = false := by simp; omega
          have hlt : x < y := by omega
          clear hne hgt
          go_wp2
          go_round
          case rel => exact ⟨x, y - x, n, rfl, by go_num, rfl, by omega, by omega, by omega, by omega, by have h := HG.out; rw [E.out] at h; exact h⟩
          case measure => simp [intOf]; omega
end Go.Proofs.Ytibmlkcbhlomhaa
