/- The walk of BurstLess. -/
import Derived.Test.YtckdnnmkookedaaC2
namespace Go.Proofs.Ytckdnnmkookedaa
open Go.RowKit

set_option maxRecDepth 100000 in
set_option maxHeartbeats 8000000 in
theorem lesses {A : Option Addr} {c n : Nat} {l : List Int} (b g s y : Int) (w : World) (h : Ints w A c l) (hn : l.length = n) (s0 : 0 ≤ s) (s1 : s < 65536) (y0 : 0 ≤ y) (y1 : y < 256) :
    Calls Try.prog 8 #[.slice A n c, .int .i64 b, .int .i64 g, .int .u16 s, .int .u8 y] w (Woke w) := by
  have KA := Lib.hid (fun W => awake W)
  by_cases hl : n ≤ 300
  · have t1 : decide ((300 : Int) < (n : Int)) = false := by simp; omega
    have t1' : decide (300 < n) = false := by simp; omega
    have HI := Lib.hid h
    clear h
    go_enter Try.func8, Try.ntmps8
    go_wp2_with (fail)
    with_reducible refine (KA.out _).mono ?_
    rintro e w1 ⟨rfl, hb1⟩
    have HB1 := Lib.hid hb1
    have HI1 := Lib.hid (HI.out.tells hb1)
    have KR := Lib.hid (right HI1.out hn (by omega))
    clear hb1
    go_wp2_with (fail)
    with_reducible refine KR.out.mono ?_
    rintro e w2 ⟨r, rfl, hr, m, rfl⟩
    clear KR
    obtain ⟨X, hX⟩ : ∃ X, X = w1.drewN m := ⟨_, rfl⟩
    have HI2 : Hid (Ints X A c l) := Lib.hid (by rw [hX]; exact HI1.out.drewN m)
    have HB2 : Hid (Below w.heap.size w X) := Lib.hid (by rw [hX]; exact below_drewN HB1.out m)
    cases r
    · go_wp2_with (fail)
      rw [← hX]
      clear hX
      with_reducible refine (KA.out _).mono ?_
      rintro e w9 ⟨rfl, hb9⟩
      have HB9 := Lib.hid (HB2.out.trans (hb9.mono HB2.out.size))
      clear hb9
      go_wp2
      go_ret
      exact ⟨rfl, HB9.out⟩
    · have HG := Lib.hid (hr rfl)
      have HT := Lib.hid HG.out.1
      rw [← hX]
      clear hX hr HI1 HB1
      have KF := Lib.hid (fun W => fine b g W)
      cases hf : fineB b g
      · rw [hf] at KF
        clear hf
        go_wp2_with (fail)
        with_reducible refine (KF.out _).mono ?_
        rintro e w3 ⟨rfl, rfl⟩
        go_wp2_with (fail)
        with_reducible refine (KA.out _).mono ?_
        rintro e w9 ⟨rfl, hb9⟩
        have HB9 := Lib.hid (HB2.out.trans (hb9.mono HB2.out.size))
        clear hb9
        go_wp2
        go_ret
        exact ⟨rfl, HB9.out⟩
      · rw [hf] at KF
        obtain ⟨b0, b1, g0, g1⟩ := fine_yes hf
        clear hf
        have KL : Hid (∀ W, Below X.heap.size X W → Calls Try.prog 16 #[.slice A n c, .int .i64 b, .int .i64 g] W (Gives (.bool (decide (g ≤ gapF b l))) W)) := Lib.hid (fun W hb => legal b g (HI2.out.tells hb) hn (by omega) HT.out b0 b1 g0 g1)
        by_cases hq : g ≤ gapF b l
        · rw [decide_eq_true hq] at KL
          have e0 := Int.emod_nonneg s (b := g) (by omega)
          have e1 := Int.emod_lt_of_pos s (b := g) (by omega)
          have etd : s.tmod g = s % g := Int.tmod_eq_emod_of_nonneg (by omega)
          have f0 := Int.emod_nonneg y (b := (n : Int) + 1) (by omega)
          have f1 := Int.emod_lt_of_pos y (b := (n : Int) + 1) (by omega)
          have ftd : y.tmod ((n : Int) + 1) = y % ((n : Int) + 1) := Int.tmod_eq_emod_of_nonneg (by omega)
          obtain ⟨j, hj⟩ : ∃ j : Nat, y % ((n : Int) + 1) = (j : Int) := ⟨(y % ((n : Int) + 1)).toNat, by omega⟩
          rw [hj] at f0 f1 ftd
          have hjn : j ≤ n := by omega
          have hjc : n ≤ c := by have := HI2.out.le; omega
          have hg0 : (g == 0) = false := beq_eq_false_iff_ne.2 (by omega)
          have hn0 : ((n : Int) + 1 == 0) = false := beq_eq_false_iff_ne.2 (by omega)
          generalize s % g = r at *
          have d1 : decide (1 + r ≤ gapF b l) = true := decide_eq_true (by omega)
          have hp := gapF_part b l j
          have d2 : decide (g ≤ gapF b (l.take j)) = true := decide_eq_true (by omega)
          have KL1 : Hid (∀ W, Below X.heap.size X W → Calls Try.prog 16 #[.slice A n c, .int .i64 b, .int .i64 (1 + r)] W (Gives (.bool true) W)) := Lib.hid (fun W hb => by
            have := legal b (1 + r) (HI2.out.tells hb) hn (by omega) HT.out b0 b1 (by omega) (by omega)
            rw [d1] at this; exact this)
          have KL2 : Hid (∀ W, Below X.heap.size X W → Calls Try.prog 16 #[.slice A j c, .int .i64 b, .int .i64 g] W (Gives (.bool true) W)) := Lib.hid (fun W hb => by
            have := legal (n := j) b g ((HI2.out.tells hb).take j) (by rw [List.length_take]; omega) (by omega) (fun x hx => HT.out x (List.mem_of_mem_take hx)) b0 b1 g0 g1
            rw [d2] at this; exact this)
          have KM := Lib.hid (fun W => most y b g W (by omega) (by omega) b0 b1 g0 g1)
          have KM1 := Lib.hid (fun W => most y b (1 + r) W (by omega) (by omega) b0 b1 (by omega) (by omega))
          have KM2 := Lib.hid (fun W => most (y + 1) b g W (by omega) (by omega) b0 b1 g0 g1)
          have m1 : decide (mostF y b g ≤ mostF y b (1 + r)) = true := decide_eq_true (mostF_less (by omega) b0 (by omega) (by omega))
          have m2 : decide (mostF y b g ≤ mostF (y + 1) b g) = true := decide_eq_true (mostF_more (by omega) b0 g0)
          have KI : Hid (∀ W, Below X.heap.size X W → Calls Try.prog 18 #[.slice A n c, .int .i64 0, .int .i64 y] W (Says (.int .i64 (inF 0 y l : Nat)) W)) := Lib.hid (fun W hb => in_ 0 y (HI2.out.tells hb) hn (by omega))
          have KI2 : Hid (∀ W, Below X.heap.size X W → Calls Try.prog 18 #[.slice A n c, .int .i64 0, .int .i64 (y + 1)] W (Says (.int .i64 (inF 0 (y + 1) l : Nat)) W)) := Lib.hid (fun W hb => in_ 0 (y + 1) (HI2.out.tells hb) hn (by omega))
          have m3 := inF_more (u := 0) (v := y) (v' := y + 1) (by omega) l
          generalize mostF y b g = q1 at *
          generalize mostF y b (1 + r) = q2 at *
          generalize mostF (y + 1) b g = q3 at *
          generalize inF 0 y l = q4 at *
          generalize inF 0 (y + 1) l = q5 at *
          have m4 : decide ((q4 : Int) ≤ (q5 : Int)) = true := by simp; omega
          have m4' : decide (q4 ≤ q5) = true := by simp; omega
          clear KA hq d1 d2 hp
          go_wp2_with (fail)
          with_reducible refine (KF.out _).mono ?_
          rintro e w3 ⟨rfl, rfl⟩
          go_wp2_with (fail)
          with_reducible refine (KL.out _ (Below.refl _ _)).mono ?_
          rintro e w4 ⟨rfl, hbn⟩
          have HB4 := Lib.hid hbn
          clear hbn
          go_wp2_with (fail)
          with_reducible refine (KL1.out _ HB4.out).mono ?_
          rintro e w5 ⟨rfl, hbn⟩
          have HB5 := Lib.hid (HB4.out.trans (hbn.mono HB4.out.size))
          clear hbn
          go_wp2_with (fail)
          with_reducible refine (KL2.out _ HB5.out).mono ?_
          rintro e w6 ⟨rfl, hbn⟩
          have HB6 := Lib.hid (HB5.out.trans (hbn.mono HB5.out.size))
          clear hbn
          go_wp2_with (fail)
          with_reducible refine (KM.out _).mono ?_
          rintro e w9 ⟨rfl, rfl⟩
          go_wp2_with (fail)
          with_reducible refine (KM1.out _).mono ?_
          rintro e w9 ⟨rfl, rfl⟩
          go_wp2_with (fail)
          with_reducible refine (KM.out _).mono ?_
          rintro e w9 ⟨rfl, rfl⟩
          go_wp2_with (fail)
          with_reducible refine (KM2.out _).mono ?_
          rintro e w9 ⟨rfl, rfl⟩
          go_wp2_with (fail)
          with_reducible refine (KI.out _ HB6.out).mono ?_
          rintro e w9 ⟨rfl, rfl⟩
          go_wp2_with (fail)
          with_reducible refine (KI2.out _ HB6.out).mono ?_
          rintro e w9 ⟨rfl, rfl⟩
          go_wp2
          go_ret
          exact ⟨rfl, HB2.out.trans (HB6.out.mono HB2.out.size)⟩
        · rw [decide_eq_false hq] at KL
          go_wp2_with (fail)
          with_reducible refine (KF.out _).mono ?_
          rintro e w3 ⟨rfl, rfl⟩
          go_wp2_with (fail)
          with_reducible refine (KL.out _ (Below.refl _ _)).mono ?_
          rintro e w4 ⟨rfl, hb4⟩
          have HB4 := Lib.hid (HB2.out.trans (hb4.mono HB2.out.size))
          clear hb4
          go_wp2_with (fail)
          with_reducible refine (KA.out _).mono ?_
          rintro e w9 ⟨rfl, hb9⟩
          have HB9 := Lib.hid (HB4.out.trans (hb9.mono HB4.out.size))
          clear hb9
          go_wp2
          go_ret
          exact ⟨rfl, HB9.out⟩
  · have t1 : decide ((300 : Int) < (n : Int)) = true := by simp; omega
    have t1' : decide (300 < n) = true := by simp; omega
    clear h
    go_enter Try.func8, Try.ntmps8
    go_wp2_with (fail)
    with_reducible refine (KA.out _).mono ?_
    rintro e w1 ⟨rfl, hb1⟩
    have HB1 := Lib.hid hb1
    clear hb1
    go_wp2_with (fail)
    with_reducible refine (KA.out _).mono ?_
    rintro e w9 ⟨rfl, hb9⟩
    have HB9 := Lib.hid (HB1.out.trans (hb9.mono HB1.out.size))
    clear hb9
    go_wp2
    go_ret
    exact ⟨rfl, HB9.out⟩
end Go.Proofs.Ytckdnnmkookedaa
