/- The walk of PatternMore. -/
import Derived.Test.YtfialaigkcgncaaC3
namespace Go.Proofs.Ytfialaigkcgncaa.InMore
open Go.RowKit Nu

/-- What the questions are answered: behind the row. -/
theorem ends {m k n : Int} (h1 : 1 ≤ m) (h2 : m ≤ k) (h3 : k ≤ 64) (n0 : 0 ≤ n) (n1 : n ≤ 4294967296) : ∃ x y : Int, x ≤ y ∧
    (∀ W, Calls Try.prog 11 #[.int .i64 1, .int .i64 n, .int .i64 k, .int .i64 k] W (Saw (.int .i64 n) W)) ∧
    (∀ W, Calls Try.prog 11 #[.int .i64 2, .int .i64 n, .int .i64 k, .int .i64 k] W (Saw (.int .i64 n) W)) ∧
    (∀ W, Calls Try.prog 11 #[.int .i64 1, .int .i64 n, .int .i64 m, .int .i64 k] W (Saw (.int .i64 x) W)) ∧
    (∀ W, Calls Try.prog 11 #[.int .i64 2, .int .i64 n, .int .i64 m, .int .i64 k] W (Saw (.int .i64 y) W)) := by
  have a := fun W => count (kind := 1) (m := k) (k := k) ⟨.inl rfl, by omega, by omega, h3⟩ n W n0 (by omega)
  have b := fun W => count (kind := 2) (m := k) (k := k) ⟨.inr rfl, by omega, by omega, h3⟩ n W n0 (by omega)
  rw [cnt_all _ (by omega)] at a b
  exact ⟨_, _, cnt_less h1 h2, a, b, fun W => count ⟨.inl rfl, h1, h2, h3⟩ n W n0 (by omega), fun W => count ⟨.inr rfl, h1, h2, h3⟩ n W n0 (by omega)⟩
/-- And ahead of it, where one more may be. -/
theorem mores {m k n : Int} (h1 : 1 ≤ m) (h2 : m < k) (h3 : k ≤ 64) (n0 : 0 ≤ n) (n1 : n ≤ 4294967296) : ∃ x x2 y y2 : Int, x ≤ x2 ∧ y ≤ y2 ∧
    (∀ W, Calls Try.prog 11 #[.int .i64 1, .int .i64 n, .int .i64 (m + 1), .int .i64 k] W (Saw (.int .i64 x2) W)) ∧
    (∀ W, Calls Try.prog 11 #[.int .i64 1, .int .i64 n, .int .i64 m, .int .i64 k] W (Saw (.int .i64 x) W)) ∧
    (∀ W, Calls Try.prog 11 #[.int .i64 2, .int .i64 n, .int .i64 (m + 1), .int .i64 k] W (Saw (.int .i64 y2) W)) ∧
    (∀ W, Calls Try.prog 11 #[.int .i64 2, .int .i64 n, .int .i64 m, .int .i64 k] W (Saw (.int .i64 y) W)) :=
  ⟨_, _, _, _, cnt_more 1 n0 (by omega), cnt_more 2 n0 (by omega), fun W => count ⟨.inl rfl, by omega, by omega, h3⟩ n W n0 (by omega), fun W => count ⟨.inl rfl, by omega, by omega, h3⟩ n W n0 (by omega), fun W => count ⟨.inr rfl, by omega, by omega, h3⟩ n W n0 (by omega), fun W => count ⟨.inr rfl, by omega, by omega, h3⟩ n W n0 (by omega)⟩

set_option maxRecDepth 100000 in
set_option maxHeartbeats 4000000 in
theorem core (n a b : Int) (w : World) (n0 : 0 ≤ n) (n1 : n < 4294967296) (a0 : 0 ≤ a) (a1 : a < 256) (b0 : 0 ≤ b) (b1 : b < 256) :
    Calls Try.prog 7 #[.int .u32 n, .int .u8 a, .int .u8 b] w (Woke w) := by
  have k0 : 0 ≤ b % 64 := by omega
  have k1 : b % 64 < 64 := by omega
  have hk : 0 < 1 + b % 64 := by omega
  have m0 := Int.emod_nonneg a (show 1 + b % 64 ≠ 0 by omega)
  have m1 := Int.emod_lt_of_pos a hk
  have hk0 : ¬ (1 + b % 64 = 0) := by omega
  go_enter Try.func7, Try.ntmps7
  go_wp2_with (fail)
  refine (awake _).mono ?_
  rintro e w1 ⟨rfl, hb1⟩
  have B1 := Lib.hid hb1
  clear hb1
  go_upto_region 6 with fail
  have hm1 : 1 ≤ 1 + a % (1 + b % 64) := by omega
  have hm2 : 1 + a % (1 + b % 64) ≤ 1 + b % 64 := by omega
  have hk2 : 1 + b % 64 ≤ 64 := by omega
  clear k0 k1 hk m0 m1 hk0
  generalize 1 + a % (1 + b % 64) = m at hm1 hm2 ⊢
  generalize 1 + b % 64 = k at hm2 hk2 ⊢
  obtain ⟨K, rfl⟩ : ∃ K : Nat, k = (K : Int) := ⟨k.toNat, by omega⟩
  have hK : K ≤ 64 := by omega
  have hp : Pat 2 m K := ⟨.inr rfl, hm1, hm2, hk2⟩
  have HP := Lib.hid hp
  clear hp
  obtain ⟨x, y, hxy, e1, e2, e3, e4⟩ := ends hm1 hm2 hk2 n0 (by omega)
  have E1 := Lib.hid e1
  have E2 := Lib.hid e2
  have E3 := Lib.hid e3
  have E4 := Lib.hid e4
  have t9 : decide (x ≤ y) = true := decide_eq_true hxy
  clear e1 e2 e3 e4 hxy
  go_cut [51] from 25 to 51 (fun s wx => s = .bool false ∧ Below w.heap.size w wx)
  case first =>
    by_cases hmk : m < (K : Int)
    · have t1 : decide (m < (K : Int)) = true := decide_eq_true hmk
      obtain ⟨p, p2, q, q2, h1, h2, f1, f2, f3, f4⟩ := mores hm1 hmk hk2 n0 (by omega)
      have F1 := Lib.hid f1
      have F2 := Lib.hid f2
      have F3 := Lib.hid f3
      have F4 := Lib.hid f4
      have t2 : decide (p2 < p) = false := decide_eq_false (by omega)
      have t3 : decide (q2 < q) = false := decide_eq_false (by omega)
      clear f1 f2 f3 f4 h1 h2
      go_wp2_with (fail)
      with_reducible refine (F1.out _).mono ?_
      rintro e w2 ⟨rfl, q1, rfl⟩
      go_wp2_with (fail)
      with_reducible refine (F2.out _).mono ?_
      rintro e w2 ⟨rfl, q2, rfl⟩
      go_wp2_with (fail)
      with_reducible refine (F3.out _).mono ?_
      rintro e w2 ⟨rfl, q3, rfl⟩
      go_wp2_with (fail)
      with_reducible refine (F4.out _).mono ?_
      rintro e w2 ⟨rfl, q4, rfl⟩
      go_wp2
      go_meet
      exact ⟨rfl, below_drew B1.out _⟩
    · have t1 : decide (m < (K : Int)) = false := decide_eq_false hmk
      go_wp2
      go_meet
      exact ⟨rfl, B1.out⟩
  case rest =>
    obtain ⟨rfl, hb⟩ := hcut
    have B2 := Lib.hid hb
    clear hb B1
    go_wp2_with (fail)
    with_reducible refine (row _ HP.out).mono ?_
    rintro e w2 ⟨c, rfl, hc, hrow, hbel⟩
    have H3 := Lib.hid hrow
    have B3 := Lib.hid (B2.out.trans (hbel.mono B2.out.size))
    clear hrow hbel hc B2
    go_wp2
    go_loopw [11] (fun i W => CmpRel 2 m K c w i W) (fun i _ => K - (intOf i).toNat)
    case atStart => exact ⟨0, _, by omega, rfl, rfl, H3.out, B3.out⟩
    case round =>
      obtain ⟨j, Z, hj, rfl, rfl, hr, hb⟩ := hrel
      have HR := Lib.hid hr
      have HB := Lib.hid hb
      clear hr hb H3 B3
      by_cases hlt : j < K
      · have t1 : decide ((j : Int) < (K : Int)) = true := by simp; omega
        have x0 : Z.cell? ⟨c, j, none⟩ = some (.bool (must 2 (j : Int) m K)) := HR.out.cell hlt
        have i1 : (0 : Int) ≤ (j : Int) := by omega
        have i2 : (j : Int) < (K : Int) := by omega
        rw [must_deep i1 i2 HP.out.m1 HP.out.le] at x0
        go_wp2
        go_roundw
        case rel => exact ⟨j + 1, _, by omega, by go_num, rfl, HR.out, HB.out⟩
        case measure => simp [intOf]; omega
      · have t1 : decide ((j : Int) < (K : Int)) = false := by simp; omega
        go_wp2_with (fail)
        with_reducible refine (E1.out _).mono ?_
        rintro e w2 ⟨rfl, q1, rfl⟩
        go_wp2_with (fail)
        with_reducible refine (E2.out _).mono ?_
        rintro e w2 ⟨rfl, q2, rfl⟩
        go_wp2_with (fail)
        with_reducible refine (E3.out _).mono ?_
        rintro e w2 ⟨rfl, q3, rfl⟩
        go_wp2_with (fail)
        with_reducible refine (E4.out _).mono ?_
        rintro e w2 ⟨rfl, q4, rfl⟩
        go_wp2
        go_ret
        exact ⟨rfl, below_drew HB.out _⟩
end Go.Proofs.Ytfialaigkcgncaa.InMore
