/- The walk of PatternMusts. -/
import Derived.Test.YtfialaigkcgncaaC1
namespace Go.Proofs.Ytfialaigkcgncaa
open Go.RowKit Nu

/-- So many places were compared. -/
def CmpRel (kind m : Int) (K b : Nat) (w : World) (i : Value) (W : World) : Prop := ∃ (j : Nat) (Z : World), j ≤ K ∧ i = .int .i64 (j : Int) ∧ Z = W ∧ Row Z b 4 K (fun i => .bool (must kind i m K)) ∧ Below w.heap.size w Z
end Go.Proofs.Ytfialaigkcgncaa
namespace Go.Proofs.Ytfialaigkcgncaa.InMusts
open Go.RowKit Nu

set_option maxRecDepth 100000 in
set_option maxHeartbeats 4000000 in
theorem core (kind n m k : Int) (w : World) (n0 : 0 ≤ n) (n1 : n < 18446744073709551616) :
    Calls Try.prog 3 #[.int .i64 kind, .int .u64 n, .int .i64 m, .int .i64 k] w (Woke w) := by
  have KR := fun W => rightAny kind m k W
  have KF := fun W => refRightAny kind m k W
  cases hr : rightB kind m k with
  | false =>
    rw [hr] at KR KF
    have KR := Lib.hid KR
    have KF := Lib.hid KF
    clear hr
    go_enter Try.func3, Try.ntmps3
    go_wp2_with (fail)
    refine (awake _).mono ?_
    rintro e w1 ⟨rfl, hb1⟩
    have B1 := Lib.hid hb1
    clear hb1
    go_wp2_with (fail)
    with_reducible refine (KR.out _).mono ?_
    rintro e w2 ⟨rfl, rfl⟩
    go_wp2_with (fail)
    with_reducible refine (KF.out _).mono ?_
    rintro e w2 ⟨rfl, rfl⟩
    go_wp2_with (fail)
    with_reducible refine (KF.out _).mono ?_
    rintro e w2 ⟨rfl, rfl⟩
    go_wp2
    go_ret
    exact ⟨rfl, B1.out⟩
  | true =>
    have hp := Pat.of hr
    obtain ⟨K, rfl⟩ : ∃ K : Nat, k = (K : Int) := ⟨k.toNat, by have := hp.m1; have := hp.le; omega⟩
    rw [hr] at KR KF
    have KR := Lib.hid KR
    have KF := Lib.hid KF
    have HP := Lib.hid hp
    have hK : K ≤ 64 := by have := hp.k2; omega
    have j0 : 0 ≤ n % 1099511627777 := by omega
    have j1 : n % 1099511627777 ≤ 1099511627776 := by omega
    clear hr hp
    go_enter Try.func3, Try.ntmps3
    go_wp2_with (fail)
    refine (awake _).mono ?_
    rintro e w1 ⟨rfl, hb1⟩
    have B1 := Lib.hid hb1
    clear hb1
    go_wp2_with (fail)
    with_reducible refine (KR.out _).mono ?_
    rintro e w2 ⟨rfl, rfl⟩
    go_wp2_with (fail)
    with_reducible refine (KF.out _).mono ?_
    rintro e w2 ⟨rfl, rfl⟩
    go_wp2_with (fail)
    with_reducible refine (KF.out _).mono ?_
    rintro e w2 ⟨rfl, rfl⟩
    go_upto_region 6 with fail
    generalize n % 1099511627777 = y at j0 j1 ⊢
    have K1 := fun W => count HP.out y W j0 j1
    have K2 := fun W => refCount HP.out y W j0 (by omega)
    have K3 := fun W => mustAt HP.out y W j0 j1
    have K4 := fun W => refMust HP.out y W j0 j1
    revert K1 K2 K3 K4
    generalize cnt kind y m K = c
    generalize must kind y m K = v
    intro K1 K2 K3 K4
    have K1 := Lib.hid K1
    have K2 := Lib.hid K2
    have K3 := Lib.hid K3
    have K4 := Lib.hid K4
    clear KR KF
    go_wp2_with (fail)
    with_reducible refine (K1.out _).mono ?_
    rintro e w2 ⟨rfl, q1, rfl⟩
    go_wp2_with (fail)
    with_reducible refine (K2.out _).mono ?_
    rintro e w2 ⟨rfl, q2, rfl⟩
    go_wp2_with (fail)
    with_reducible refine (K3.out _).mono ?_
    rintro e w2 ⟨rfl, q3, rfl⟩
    go_wp2_with (fail)
    with_reducible refine (K4.out _).mono ?_
    rintro e w2 ⟨rfl, q4, rfl⟩
    go_wp2_with (fail)
    with_reducible refine (row _ HP.out).mono ?_
    rintro e w2 ⟨b, rfl, hb, hrow, hbel⟩
    have H2 := Lib.hid hrow
    have B2 := Lib.hid ((below_drew B1.out _).trans (hbel.mono (below_drew B1.out _).size))
    clear hrow hbel hb K1 K2 K3 K4
    go_wp2
    go_loopw [11] (fun i W => CmpRel kind m K b w i W) (fun i _ => K - (intOf i).toNat)
    case atStart => exact ⟨0, _, by omega, rfl, rfl, H2.out, B2.out⟩
    case round =>
      obtain ⟨j, Z, hj, rfl, rfl, hr, hb⟩ := hrel
      have HR := Lib.hid hr
      have HB := Lib.hid hb
      clear hr hb H2 B2
      by_cases hlt : j < K
      · have t1 : decide ((j : Int) < (K : Int)) = true := by simp; omega
        have x0 : Z.cell? ⟨b, j, none⟩ = some (.bool (must kind (j : Int) m K)) := HR.out.cell hlt
        have i1 : (0 : Int) ≤ (j : Int) := by omega
        have i2 : (j : Int) < (K : Int) := by omega
        have KM := fun W => refMust HP.out (j : Int) W i1 (by omega)
        revert KM x0
        generalize must kind (j : Int) m K = v
        intro x0 KM
        have KM := Lib.hid KM
        go_wp2_with (fail)
        go_quiet (exact Calls.quiet_of (KM.out _))
        go_wp2
        go_roundw
        case rel => exact ⟨j + 1, _, by omega, by go_num, rfl, HR.out.drewN _, below_drew HB.out _⟩
        case measure => simp [intOf]; omega
      · have t1 : decide ((j : Int) < (K : Int)) = false := by simp; omega
        go_wp2
        go_ret
        exact ⟨rfl, HB.out⟩
end Go.Proofs.Ytfialaigkcgncaa.InMusts
