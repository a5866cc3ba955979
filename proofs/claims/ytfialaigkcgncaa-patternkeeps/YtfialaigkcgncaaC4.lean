/- The walk of PatternKeeps. -/
import Derived.Test.YtfialaigkcgncaaC3
namespace Go.Proofs.Ytfialaigkcgncaa.InKeeps
open Go.RowKit Nu

/-- So many places were written over. -/
def FlipRel (K c : Nat) (w : World) (i : Value) (W : World) : Prop := ∃ (j : Nat) (Z : World) (g : Nat → Bool), j ≤ K ∧ i = .int .i64 (j : Int) ∧ Z = W ∧ Row Z c 4 K (fun i => .bool (g i)) ∧ Below w.heap.size w Z
set_option maxRecDepth 100000 in
set_option maxHeartbeats 4000000 in
theorem core (a b : Int) (w : World) (a0 : 0 ≤ a) (a1 : a < 256) (b0 : 0 ≤ b) (b1 : b < 256) :
    Calls Try.prog 6 #[.int .u8 a, .int .u8 b] w (Woke w) := by
  have k0 : 0 ≤ b % 64 := by omega
  have k1 : b % 64 < 64 := by omega
  have hk : 0 < 1 + b % 64 := by omega
  have m0 := Int.emod_nonneg a (show 1 + b % 64 ≠ 0 by omega)
  have m1 := Int.emod_lt_of_pos a hk
  have hk0 : ¬ (1 + b % 64 = 0) := by omega
  go_enter Try.func6, Try.ntmps6
  go_wp2_with (fail)
  refine (awake _).mono ?_
  rintro e w1 ⟨rfl, hb1⟩
  have B1 := Lib.hid hb1
  clear hb1
  go_upto_region 5 with fail
  have hm1 : 1 ≤ 1 + a % (1 + b % 64) := by omega
  have hm2 : 1 + a % (1 + b % 64) ≤ 1 + b % 64 := by omega
  have hk2 : 1 + b % 64 ≤ 64 := by omega
  clear k0 k1 hk m0 m1 hk0
  generalize 1 + a % (1 + b % 64) = m at hm1 hm2 ⊢
  generalize 1 + b % 64 = k at hm2 hk2 ⊢
  obtain ⟨K, rfl⟩ : ∃ K : Nat, k = (K : Int) := ⟨k.toNat, by omega⟩
  have hK : K ≤ 64 := by omega
  have hp : Pat 1 m K := ⟨.inl rfl, hm1, hm2, hk2⟩
  have HP := Lib.hid hp
  clear hp
  go_wp2_with (fail)
  with_reducible refine (row _ HP.out).mono ?_
  rintro e w2 ⟨c, rfl, hc, hrow, hbel⟩
  have H2 := Lib.hid hrow
  have B2 := Lib.hid (B1.out.trans (hbel.mono B1.out.size))
  have hcw : w.heap.size ≤ c := Nat.le_trans B1.out.size hc
  clear hrow hbel hc B1
  go_wp2
  go_loopw [8] (fun i W => FlipRel K c w i W) (fun i _ => K - (intOf i).toNat)
  case atStart => exact ⟨0, _, _, by omega, rfl, rfl, H2.out, B2.out⟩
  case round =>
    obtain ⟨j, Z, g, hj, rfl, rfl, hr, hb⟩ := hrel
    have HR := Lib.hid hr
    have HB := Lib.hid hb
    clear hr hb H2 B2
    by_cases hlt : j < K
    · have t1 : decide ((j : Int) < (K : Int)) = true := by simp; omega
      have x0 : Z.cell? ⟨c, j, none⟩ = some (.bool (g j)) := HR.out.cell hlt
      have z0 := HR.out.thawed j
      have i1 : (0 : Int) ≤ (j : Int) := by omega
      have i2 : (j : Int) < (K : Int) := by omega
      have HF : Hid (∀ i, i < K → (fun i => Value.bool (if i = j then !g j else g i)) i = if i = j then .bool (!g j) else (fun i => Value.bool (g i)) i) := Lib.hid (fun i _ => by
        by_cases e : i = j
        · simp only [if_pos e]
        · simp only [if_neg e])
      generalize g j = v at x0 HF
      go_wp2
      go_roundw
      case rel => exact ⟨j + 1, _, _, by omega, by go_num, rfl, HR.out.set HF.out, HB.out.setCell (by simp only; omega) _⟩
      case measure => simp [intOf]; omega
    · have t1 : decide ((j : Int) < (K : Int)) = false := by simp; omega
      go_wp2_with (fail)
      with_reducible refine (row _ HP.out).mono ?_
      rintro e w3 ⟨c2, rfl, hc, hrow, hbel⟩
      have H3 := Lib.hid hrow
      have B3 := Lib.hid (HB.out.trans (hbel.mono HB.out.size))
      clear hrow hbel hc HR HB
      go_wp2
      go_loopw [10] (fun i W => CmpRel 1 m K c2 w i W) (fun i _ => K - (intOf i).toNat)
      case atStart => exact ⟨0, _, by omega, rfl, rfl, H3.out, B3.out⟩
      case round =>
        obtain ⟨j, Z, hj, rfl, rfl, hr, hb⟩ := hrel
        have HR := Lib.hid hr
        have HB := Lib.hid hb
        clear hr hb H3 B3
        by_cases hlt : j < K
        · have t1 : decide ((j : Int) < (K : Int)) = true := by simp; omega
          have x0 : Z.cell? ⟨c2, j, none⟩ = some (.bool (must 1 (j : Int) m K)) := HR.out.cell hlt
          have i1 : (0 : Int) ≤ (j : Int) := by omega
          have i2 : (j : Int) < (K : Int) := by omega
          have KM := fun W => refMust HP.out (j : Int) W i1 (by omega)
          revert KM x0
          generalize must 1 (j : Int) m K = v
          intro x0 KM
          have KM := Lib.hid KM
          go_wp2_with (fail)
          go_quiet (exact Calls.quiet_of (KM.out _))
          go_wp2
          go_roundw
          case rel => exact ⟨j + 1, _, by omega, by go_num, rfl, HR.out.drewN _, below_drew HB.out _⟩
          case measure => simp [intOf]; omega
        · have t1 : decide ((j : Int) < (K : Int)) = false := by simp; omega
          go_wp2
          go_ret
          exact ⟨rfl, HB.out⟩
end Go.Proofs.Ytfialaigkcgncaa.InKeeps
