/- The walk of PatternCounts. -/
import Derived.Test.YtfialaigkcgncaaAw
import Derived.Deep.DeepCutAuto
namespace Go.Proofs.Ytfialaigkcgncaa
open Go.RowKit Nu

/-- The kind that a bool names. -/
def Kd (d : Bool) (kind : Int) : Prop := (d = true ∧ kind = 2) ∨ (d = false ∧ kind = 1)
theorem Kd.pat {d : Bool} {kind m k : Int} (h : Kd d kind) (h1 : 1 ≤ m) (h2 : m ≤ k) (h3 : k ≤ 64) : Pat kind m k :=
  ⟨by rcases h with ⟨_, h⟩ | ⟨_, h⟩; exact .inr h; exact .inl h, h1, h2, h3⟩
theorem u8_of {a : Int} (h : (Lit.int .u8 a).wf = true) : 0 ≤ a ∧ a < 256 := by
  have h' : IntKind.u8.min ≤ a ∧ a ≤ IntKind.u8.max := by simpa [Lit.wf] using h
  have e1 : IntKind.u8.min = 0 := rfl
  have e2 : IntKind.u8.max = 255 := rfl
  omega
theorem u64_of {a : Int} (h : (Lit.int .u64 a).wf = true) : 0 ≤ a ∧ a < 18446744073709551616 := by
  have h' : IntKind.u64.min ≤ a ∧ a ≤ IntKind.u64.max := by simpa [Lit.wf] using h
  have e1 : IntKind.u64.min = 0 := rfl
  have e2 : IntKind.u64.max = 18446744073709551615 := rfl
  omega
theorem u32_of {a : Int} (h : (Lit.int .u32 a).wf = true) : 0 ≤ a ∧ a < 4294967296 := by
  have h' : IntKind.u32.min ≤ a ∧ a ≤ IntKind.u32.max := by simpa [Lit.wf] using h
  have e1 : IntKind.u32.min = 0 := rfl
  have e2 : IntKind.u32.max = 4294967295 := rfl
  omega
end Go.Proofs.Ytfialaigkcgncaa
namespace Go.Proofs.Ytfialaigkcgncaa.InCounts
open Go.RowKit Nu

/-- What the five questions are answered. -/
theorem ways {kind m k n : Int} (hp : Pat kind m k) (n0 : 0 ≤ n) (n1 : n ≤ 4294967296) : ∃ (x y : Int) (q : Bool), 0 ≤ x ∧ x ≤ n ∧ ((q = true ∧ y = x + 1) ∨ (q = false ∧ x = y)) ∧
    (∀ W, Calls Try.prog 11 #[.int .i64 kind, .int .i64 n, .int .i64 m, .int .i64 k] W (Saw (.int .i64 x) W)) ∧
    (∀ W, Calls Try.prog 11 #[.int .i64 kind, .int .i64 (n + 1), .int .i64 m, .int .i64 k] W (Saw (.int .i64 y) W)) ∧
    (∀ W, Calls Try.prog 13 #[.int .i64 kind, .int .i64 n, .int .i64 m, .int .i64 k] W (Saw (.bool q) W)) ∧
    (∀ W, Calls Try.prog 11 #[.int .i64 kind, .int .i64 (n + k), .int .i64 m, .int .i64 k] W (Saw (.int .i64 (x + m)) W)) ∧
    (∀ W, Calls Try.prog 13 #[.int .i64 kind, .int .i64 (n + k), .int .i64 m, .int .i64 k] W (Saw (.bool q) W)) := by
  have h1 := hp.m1
  have h2 := hp.le
  have h3 := hp.k2
  have k4 := fun W => count hp (n + k) W (by omega) (by omega)
  have k5 := fun W => mustAt hp (n + k) W (by omega) (by omega)
  rw [cnt_round _ (by omega)] at k4
  rw [must_round _ (by omega)] at k5
  refine ⟨cnt kind n m k, cnt kind (n + 1) m k, must kind n m k, cnt_low _ n0 h1 h2, cnt_high _ n0 h1 h2, ?_, fun W => count hp n W n0 (by omega), fun W => count hp (n + 1) W (by omega) (by omega), fun W => mustAt hp n W n0 (by omega), k4, k5⟩
  cases e : must kind n m k with
  | true => exact .inl ⟨rfl, must_yes _ h1 h2 e⟩
  | false => exact .inr ⟨rfl, (must_no _ h1 h2 e).symm⟩

set_option maxRecDepth 100000 in
set_option maxHeartbeats 4000000 in
theorem core (d : Bool) (kind n a b : Int) (w : World) (hd : Kd d kind) (n0 : 0 ≤ n) (n1 : n < 4294967296) (a0 : 0 ≤ a) (a1 : a < 256) (b0 : 0 ≤ b) (b1 : b < 256) :
    Calls Try.prog 5 #[.bool d, .int .u32 n, .int .u8 a, .int .u8 b] w (Woke w) := by
  have k0 : 0 ≤ b % 64 := by omega
  have k1 : b % 64 < 64 := by omega
  have HD := Lib.hid hd
  have hk : 0 < 1 + b % 64 := by omega
  have m0 := Int.emod_nonneg a (show 1 + b % 64 ≠ 0 by omega)
  have m1 := Int.emod_lt_of_pos a hk
  have hk0 : ¬ (1 + b % 64 = 0) := by omega
  go_enter Try.func5, Try.ntmps5
  go_wp2_with (fail)
  refine (awake _).mono ?_
  rintro e w1 ⟨rfl, hb1⟩
  have B1 := Lib.hid hb1
  clear hb1
  rcases hd with ⟨rfl, rfl⟩ | ⟨rfl, rfl⟩
  all_goals
    go_upto_region 9 with fail
    have hm1 : 1 ≤ 1 + a % (1 + b % 64) := by omega
    have hm2 : 1 + a % (1 + b % 64) ≤ 1 + b % 64 := by omega
    have hk2 : 1 + b % 64 ≤ 64 := by omega
    clear k0 k1 hk m0 m1 hk0
    generalize 1 + a % (1 + b % 64) = m at hm1 hm2 ⊢
    generalize 1 + b % 64 = k at hm2 hk2 ⊢
    have hp := HD.out.pat hm1 hm2 hk2
    obtain ⟨x, y, q, x0, x1, hway, k1, k2, k3, k4, k5⟩ := ways hp n0 (by omega)
    have K1 := Lib.hid k1
    have K2 := Lib.hid k2
    have K3 := Lib.hid k3
    have K4 := Lib.hid k4
    have K5 := Lib.hid k5
    clear k1 k2 k3 k4 k5 hp HD
    rcases hway with ⟨rfl, rfl⟩ | ⟨rfl, rfl⟩
    · have t1 : (x + 1 == x) = false := by simp; omega
      go_wp2_with (fail)
      with_reducible refine (K1.out _).mono ?_
      rintro e w2 ⟨rfl, q1, rfl⟩
      go_wp2_with (fail)
      with_reducible refine (K2.out _).mono ?_
      rintro e w2 ⟨rfl, q2, rfl⟩
      go_wp2_with (fail)
      with_reducible refine (K3.out _).mono ?_
      rintro e w2 ⟨rfl, q3, rfl⟩
      go_wp2_with (fail)
      with_reducible refine (K4.out _).mono ?_
      rintro e w2 ⟨rfl, q4, rfl⟩
      go_wp2_with (fail)
      with_reducible refine (K5.out _).mono ?_
      rintro e w2 ⟨rfl, q5, rfl⟩
      go_wp2_with (fail)
      with_reducible refine (K3.out _).mono ?_
      rintro e w2 ⟨rfl, q6, rfl⟩
      go_wp2
      go_ret
      exact ⟨rfl, below_drew B1.out _⟩
    · have t1 : (x == x + 1) = false := by simp; omega
      go_wp2_with (fail)
      with_reducible refine (K1.out _).mono ?_
      rintro e w2 ⟨rfl, q1, rfl⟩
      go_wp2_with (fail)
      with_reducible refine (K2.out _).mono ?_
      rintro e w2 ⟨rfl, q2, rfl⟩
      go_wp2_with (fail)
      with_reducible refine (K3.out _).mono ?_
      rintro e w2 ⟨rfl, q3, rfl⟩
      go_wp2_with (fail)
      with_reducible refine (K4.out _).mono ?_
      rintro e w2 ⟨rfl, q4, rfl⟩
      go_wp2_with (fail)
      with_reducible refine (K5.out _).mono ?_
      rintro e w2 ⟨rfl, q5, rfl⟩
      go_wp2_with (fail)
      with_reducible refine (K3.out _).mono ?_
      rintro e w2 ⟨rfl, q6, rfl⟩
      go_wp2
      go_ret
      exact ⟨rfl, below_drew B1.out _⟩
end Go.Proofs.Ytfialaigkcgncaa.InCounts
