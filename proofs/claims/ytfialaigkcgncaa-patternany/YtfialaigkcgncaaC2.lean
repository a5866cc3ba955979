/- The walk of PatternAny. -/
import Derived.Test.YtfialaigkcgncaaC1
namespace Go.Proofs.Ytfialaigkcgncaa.InAny
open Go.RowKit Nu

/-- So many jobs were asked; as many of them must be. -/
def AnyRel (kind n m k : Int) (w : World) (c i : Value) (W : World) : Prop := ∃ (j : Nat) (x : Int) (Z : World), (j : Int) ≤ k ∧ i = .int .i64 (j : Int) ∧ c = .int .i64 x ∧ Z = W ∧ x = cnt kind (n + j) m k - cnt kind n m k ∧ 0 ≤ x ∧ x ≤ j ∧ Below w.heap.size w Z
theorem firstly {kind m k : Int} (hp : Pat kind m k) (W : World) : Calls Try.prog 13 #[.int .i64 kind, .int .i64 0, .int .i64 m, .int .i64 k] W (Saw (.bool true) W) := by
  have h := mustAt hp 0 W (by omega) (by omega)
  rw [must_first _ hp.m1 hp.le] at h
  exact h
theorem lastly {kind m k n : Int} (hp : Pat kind m k) (n0 : 0 ≤ n) (n1 : n ≤ 4294967296) : m < k ∨ (¬ m < k ∧ ∀ W, Calls Try.prog 13 #[.int .i64 kind, .int .i64 n, .int .i64 m, .int .i64 k] W (Saw (.bool true) W)) := by
  by_cases h : m < k
  · exact .inl h
  · refine .inr ⟨h, fun W => ?_⟩
    have e : m = k := by have := hp.le; omega
    have h := mustAt hp n W n0 (by omega)
    subst e
    rw [must_all _ (by have := hp.m1; omega)] at h
    exact h

set_option maxRecDepth 100000 in
set_option maxHeartbeats 4000000 in
theorem core (d : Bool) (kind n a b : Int) (w : World) (hd : Kd d kind) (n0 : 0 ≤ n) (n1 : n < 4294967296) (a0 : 0 ≤ a) (a1 : a < 256) (b0 : 0 ≤ b) (b1 : b < 256) :
    Calls Try.prog 4 #[.bool d, .int .u32 n, .int .u8 a, .int .u8 b] w (Woke w) := by
  have k0 : 0 ≤ b % 64 := by omega
  have k1 : b % 64 < 64 := by omega
  have HD := Lib.hid hd
  have hk : 0 < 1 + b % 64 := by omega
  have m0 := Int.emod_nonneg a (show 1 + b % 64 ≠ 0 by omega)
  have m1 := Int.emod_lt_of_pos a hk
  have hk0 : ¬ (1 + b % 64 = 0) := by omega
  go_enter Try.func4, Try.ntmps4
  go_wp2_with (fail)
  refine (awake _).mono ?_
  rintro e w1 ⟨rfl, hb1⟩
  have B1 := Lib.hid hb1
  clear hb1
  rcases hd with ⟨rfl, rfl⟩ | ⟨rfl, rfl⟩
  · go_upto_region 8 with fail
    have hm1 : 1 ≤ 1 + a % (1 + b % 64) := by omega
    have hm2 : 1 + a % (1 + b % 64) ≤ 1 + b % 64 := by omega
    have hk2 : 1 + b % 64 ≤ 64 := by omega
    clear k0 k1 hk m0 m1 hk0
    generalize 1 + a % (1 + b % 64) = m at hm1 hm2 ⊢
    generalize 1 + b % 64 = k at hm2 hk2 ⊢
    have hp := HD.out.pat hm1 hm2 hk2
    have HP := Lib.hid hp
    have K0 := Lib.hid (fun W => firstly hp W)
    have K1 := Lib.hid (lastly hp n0 (by omega))
    clear hp HD
    go_wp2
    go_loopw [12, 13] (fun c i W => AnyRel 2 n m k w c i W) (fun _ i _ => k.toNat - (intOf i).toNat)
    case atStart => exact ⟨0, 0, _, by omega, rfl, rfl, rfl, by rw [show n + ((0 : Nat) : Int) = n by omega]; omega, by omega, by omega, B1.out⟩
    case round =>
      obtain ⟨j, x, Z, hj, rfl, rfl, rfl, hx, x0, x1, hb⟩ := hrel
      have HX := Lib.hid hx
      have HB := Lib.hid hb
      clear hx hb B1
      by_cases hlt : (j : Int) < k
      · have t1 : decide ((j : Int) < k) = true := decide_eq_true hlt
        have KM := fun W => mustAt HP.out (n + j) W (by omega) (by omega)
        have hy := must_yes 2 (n := n + j) HP.out.m1 HP.out.le
        have hn := must_no 2 (n := n + j) HP.out.m1 HP.out.le
        have hne : n + ((j + 1 : Nat) : Int) = n + j + 1 := by omega
        revert KM hy hn
        generalize must 2 (n + (j : Int)) m k = q
        intro KM hy hn
        have KM := Lib.hid KM
        cases q with
        | true =>
          have HY := Lib.hid (hy rfl)
          clear hy hn
          go_wp2_with (fail)
          with_reducible refine (KM.out _).mono ?_
          rintro e w2 ⟨rfl, q1, rfl⟩
          go_wp2
          go_roundw
          case rel => exact ⟨j + 1, x + 1, _, by omega, by go_num, rfl, rfl, by rw [hne, HY.out, HX.out]; omega, by omega, by omega, below_drew HB.out _⟩
          case measure => simp [intOf]; omega
        | false =>
          have HY := Lib.hid (hn rfl)
          clear hy hn
          go_wp2_with (fail)
          with_reducible refine (KM.out _).mono ?_
          rintro e w2 ⟨rfl, q1, rfl⟩
          go_wp2
          go_roundw
          case rel => exact ⟨j + 1, x, _, by omega, by go_num, rfl, rfl, by rw [hne, HY.out, HX.out], by omega, by omega, below_drew HB.out _⟩
          case measure => simp [intOf]; omega
      · have t1 : decide ((j : Int) < k) = false := decide_eq_false hlt
        have hjk : (j : Int) = k := by omega
        have hxm : x = m := by rw [HX.out, hjk, cnt_round 2 (by omega)]; omega
        clear HX hjk
        subst hxm
        rcases K1.out with hmk | hmk
        · have t2 : decide (x < k) = true := decide_eq_true hmk
          go_wp2_with (fail)
          with_reducible refine (K0.out _).mono ?_
          rintro e w2 ⟨rfl, q1, rfl⟩
          go_wp2
          go_ret
          exact ⟨rfl, below_drew HB.out _⟩
        · obtain ⟨h1, h2⟩ := hmk
          have t2 : decide (x < k) = false := decide_eq_false (by omega)
          have KL := Lib.hid h2
          clear h1 h2
          go_wp2_with (fail)
          with_reducible refine (K0.out _).mono ?_
          rintro e w2 ⟨rfl, q1, rfl⟩
          go_wp2_with (fail)
          with_reducible refine (KL.out _).mono ?_
          rintro e w2 ⟨rfl, q2, rfl⟩
          go_wp2
          go_ret
          exact ⟨rfl, below_drew HB.out _⟩
  · go_upto_region 8 with fail
    have hm1 : 1 ≤ 1 + a % (1 + b % 64) := by omega
    have hm2 : 1 + a % (1 + b % 64) ≤ 1 + b % 64 := by omega
    have hk2 : 1 + b % 64 ≤ 64 := by omega
    clear k0 k1 hk m0 m1 hk0
    generalize 1 + a % (1 + b % 64) = m at hm1 hm2 ⊢
    generalize 1 + b % 64 = k at hm2 hk2 ⊢
    have hp := HD.out.pat hm1 hm2 hk2
    have HP := Lib.hid hp
    have K0 := Lib.hid (fun W => firstly hp W)
    have K1 := Lib.hid (lastly hp n0 (by omega))
    clear hp HD
    go_wp2
    go_loopw [12, 13] (fun c i W => AnyRel 1 n m k w c i W) (fun _ i _ => k.toNat - (intOf i).toNat)
    case atStart => exact ⟨0, 0, _, by omega, rfl, rfl, rfl, by rw [show n + ((0 : Nat) : Int) = n by omega]; omega, by omega, by omega, B1.out⟩
    case round =>
      obtain ⟨j, x, Z, hj, rfl, rfl, rfl, hx, x0, x1, hb⟩ := hrel
      have HX := Lib.hid hx
      have HB := Lib.hid hb
      clear hx hb B1
      by_cases hlt : (j : Int) < k
      · have t1 : decide ((j : Int) < k) = true := decide_eq_true hlt
        have KM := fun W => mustAt HP.out (n + j) W (by omega) (by omega)
        have hy := must_yes 1 (n := n + j) HP.out.m1 HP.out.le
        have hn := must_no 1 (n := n + j) HP.out.m1 HP.out.le
        have hne : n + ((j + 1 : Nat) : Int) = n + j + 1 := by omega
        revert KM hy hn
        generalize must 1 (n + (j : Int)) m k = q
        intro KM hy hn
        have KM := Lib.hid KM
        cases q with
        | true =>
          have HY := Lib.hid (hy rfl)
          clear hy hn
          go_wp2_with (fail)
          with_reducible refine (KM.out _).mono ?_
          rintro e w2 ⟨rfl, q1, rfl⟩
          go_wp2
          go_roundw
          case rel => exact ⟨j + 1, x + 1, _, by omega, by go_num, rfl, rfl, by rw [hne, HY.out, HX.out]; omega, by omega, by omega, below_drew HB.out _⟩
          case measure => simp [intOf]; omega
        | false =>
          have HY := Lib.hid (hn rfl)
          clear hy hn
          go_wp2_with (fail)
          with_reducible refine (KM.out _).mono ?_
          rintro e w2 ⟨rfl, q1, rfl⟩
          go_wp2
          go_roundw
          case rel => exact ⟨j + 1, x, _, by omega, by go_num, rfl, rfl, by rw [hne, HY.out, HX.out], by omega, by omega, below_drew HB.out _⟩
          case measure => simp [intOf]; omega
      · have t1 : decide ((j : Int) < k) = false := decide_eq_false hlt
        have hjk : (j : Int) = k := by omega
        have hxm : x = m := by rw [HX.out, hjk, cnt_round 1 (by omega)]; omega
        clear HX hjk
        subst hxm
        rcases K1.out with hmk | hmk
        · have t2 : decide (x < k) = true := decide_eq_true hmk
          go_wp2_with (fail)
          with_reducible refine (K0.out _).mono ?_
          rintro e w2 ⟨rfl, q1, rfl⟩
          go_wp2
          go_ret
          exact ⟨rfl, below_drew HB.out _⟩
        · obtain ⟨h1, h2⟩ := hmk
          have t2 : decide (x < k) = false := decide_eq_false (by omega)
          have KL := Lib.hid h2
          clear h1 h2
          go_wp2_with (fail)
          with_reducible refine (K0.out _).mono ?_
          rintro e w2 ⟨rfl, q1, rfl⟩
          go_wp2_with (fail)
          with_reducible refine (KL.out _).mono ?_
          rintro e w2 ⟨rfl, q2, rfl⟩
          go_wp2
          go_ret
          exact ⟨rfl, below_drew HB.out _⟩
end Go.Proofs.Ytfialaigkcgncaa.InAny
