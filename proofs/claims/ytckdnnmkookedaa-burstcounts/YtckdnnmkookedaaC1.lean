/- The walk of BurstCounts. -/
import Derived.Test.YtckdnnmkookedaaAw
namespace Go.Proofs.Ytckdnnmkookedaa
open Go.RowKit

theorem fine_yes {b g : Int} (h : fineB b g = true) : 1 ≤ b ∧ b ≤ 1000 ∧ 1 ≤ g ∧ g ≤ 1049576 := by simpa [fineB] using h
set_option maxHeartbeats 4000000 in
theorem counts (a b g : Int) (w : World) (a0 : 0 ≤ a) (a1 : a < 4294967296) : Calls Try.prog 4 #[.int .u32 a, .int .i64 b, .int .i64 g] w (Woke w) := by
  have KA := Lib.hid (fun W => awake W)
  have KF := Lib.hid (fun W => fine b g W)
  cases hf : fineB b g
  · rw [hf] at KF
    clear hf
    go_enter Try.func4, Try.ntmps4
    go_wp2_with (fail)
    with_reducible refine (KA.out _).mono ?_
    rintro e w1 ⟨rfl, hb1⟩
    have HB1 := Lib.hid hb1
    clear hb1
    go_wp2_with (fail)
    with_reducible refine (KF.out _).mono ?_
    rintro e w2 ⟨rfl, rfl⟩
    go_wp2_with (fail)
    with_reducible refine (KA.out _).mono ?_
    rintro e w2 ⟨rfl, hb2⟩
    have HB2 := Lib.hid (HB1.out.trans (hb2.mono HB1.out.size))
    clear hb2
    go_wp2
    go_ret
    exact ⟨rfl, HB2.out⟩
  · rw [hf] at KF
    obtain ⟨b0, b1, g0, g1⟩ := fine_yes hf
    clear hf
    have KM := Lib.hid (fun W => most a b g W a0 (by omega) b0 b1 g0 g1)
    have KR := Lib.hid (fun W => refMost a b g W a0 (by omega) b0 b1 g0 g1)
    have KM1 := Lib.hid (fun W => most (a + 1) b g W (by omega) (by omega) b0 b1 g0 g1)
    have hm1 := mostF_more (w := a) (b := b) (g := g) a0 b0 g0
    have hlo := mostF_nonneg (w := a) (b := b) (g := g) a0 b0 g0
    have hd1 : decide (mostF (a + 1) b g < mostF a b g) = false := by simp; omega
    by_cases hg : g = 1
    · subst hg
      generalize mostF a b 1 = r at *
      generalize mostF (a + 1) b 1 = r1 at *
      go_enter Try.func4, Try.ntmps4
      go_wp2_with (fail)
      with_reducible refine (KA.out _).mono ?_
      rintro e w1 ⟨rfl, hb1⟩
      have HB1 := Lib.hid hb1
      clear hb1
      go_wp2_with (fail)
      with_reducible refine (KF.out _).mono ?_
      rintro e w2 ⟨rfl, rfl⟩
      go_wp2_with (fail)
      with_reducible refine (KM.out _).mono ?_
      rintro e w2 ⟨rfl, rfl⟩
      go_wp2_with (fail)
      with_reducible refine (KR.out _).mono ?_
      rintro e w2 ⟨rfl, rfl⟩
      go_wp2_with (fail)
      with_reducible refine (KM1.out _).mono ?_
      rintro e w2 ⟨rfl, rfl⟩
      go_wp2
      go_ret
      exact ⟨rfl, HB1.out⟩
    · have t1 : (g == 1) = false := by simpa using hg
      have KL := Lib.hid (fun W => most a b (g - 1) W a0 (by omega) b0 b1 (by omega) (by omega))
      have hl := mostF_less (w := a) (b := b) (g := g) (k := g - 1) a0 b0 (by omega) (by omega)
      have hd2 : decide (mostF a b g ≤ mostF a b (g - 1)) = true := by simpa using hl
      generalize mostF a b g = r at *
      generalize mostF (a + 1) b g = r1 at *
      generalize mostF a b (g - 1) = r2 at *
      go_enter Try.func4, Try.ntmps4
      go_wp2_with (fail)
      with_reducible refine (KA.out _).mono ?_
      rintro e w1 ⟨rfl, hb1⟩
      have HB1 := Lib.hid hb1
      clear hb1
      go_wp2_with (fail)
      with_reducible refine (KF.out _).mono ?_
      rintro e w2 ⟨rfl, rfl⟩
      go_wp2_with (fail)
      with_reducible refine (KM.out _).mono ?_
      rintro e w2 ⟨rfl, rfl⟩
      go_wp2_with (fail)
      with_reducible refine (KR.out _).mono ?_
      rintro e w2 ⟨rfl, rfl⟩
      go_wp2_with (fail)
      with_reducible refine (KM1.out _).mono ?_
      rintro e w2 ⟨rfl, rfl⟩
      go_wp2_with (fail)
      with_reducible refine (KL.out _).mono ?_
      rintro e w2 ⟨rfl, rfl⟩
      go_wp2
      go_ret
      exact ⟨rfl, HB1.out⟩
end Go.Proofs.Ytckdnnmkookedaa
