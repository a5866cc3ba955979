/- The walk of the statement on verdicts. -/
import Derived.Test.YtklnokhabomnfaaAw
import Derived.Test.YtklnokhabomnfaaRx
import Derived.Test.YtklnokhabomnfaaFw
import Derived.Deep.DeepCutAuto
namespace Go.Proofs.Ytklnokhabomnfaa
open Go.RowKit

theorem ints_none {w : World} : Ints w none 0 [] := ⟨Nat.le_refl _, fun _ => rfl, fun h => absurd h (by decide)⟩
set_option maxRecDepth 100000 in
set_option maxHeartbeats 8000000 in
theorem coreJudges (b : Int) (l : List Tk) (a : Option Addr) (cap : Nat) (g : Int) {w : World} (hm : l.length ≤ maxLen) (ht : Tasks w a cap l) :
    Calls Try.prog 3 #[.agg #[.int .i64 b, .slice a l.length cap], .int .i64 g] w (Woke w) := by
  have KA := Lib.hid (fun W => awake W)
  have HT := Lib.hid ht
  have HB0 := Lib.hid (SetBox.made w b a l.length cap)
  clear ht
  go_enter Try.func3, Try.ntmps3
  go_wp2_with (fail)
  with_reducible refine (KA.out _).mono ?_
  rintro e w1 ⟨rfl, hb1⟩
  have HB1 := Lib.hid (HB0.out.tells hb1)
  have KF := Lib.hid (few b l a cap hm (HT.out.below (Nat.le_refl _) HB1.out.below))
  clear hb1 HB0
  obtain ⟨s0, s1⟩ := HB1.out.cells
  go_wp2_with (fail)
  with_reducible refine KF.out.mono ?_
  rintro e w2 ⟨r, rfl, hb2, hf⟩
  have HB2 := Lib.hid (HB1.out.tells hb2)
  have KR := Lib.hid (refRight b l a cap hm (HT.out.below (Nat.le_refl _) HB2.out.below))
  clear hb2 s0 s1 HB1 KF hf
  obtain ⟨s0, s1⟩ := HB2.out.cells
  cases r
  · go_wp2_with (fail)
    with_reducible refine (KA.out _).mono ?_
    rintro e w9 ⟨rfl, hb9⟩
    have HB9 := Lib.hid (HB2.out.tells hb9)
    clear hb9
    go_wp2
    go_ret
    exact ⟨rfl, HB9.out.below⟩
  · cases hrr : ((whyF b l).1 == 0)
    · rw [hrr] at KR
      have hno : ¬ ((whyF b l).1 = 0 ∧ 1 ≤ g ∧ g ≤ 1049576) := fun h => by
        rw [h.1] at hrr; cases hrr
      go_wp2_with (fail)
      with_reducible refine KR.out.mono ?_
      rintro e w3 ⟨rfl, hb3⟩
      have HB3 := Lib.hid (HB2.out.tells hb3)
      clear hb3 s0 s1 HB2 KR
      obtain ⟨s0, s1⟩ := HB3.out.cells
      clear KA
      have KJ := Lib.hid (judge_no b g (w := w3) hm (HT.out.below (Nat.le_refl _) HB3.out.below) hno)
      go_wp2_with (fail)
      with_reducible refine KJ.out.mono ?_
      rintro e w4 ⟨rfl, hb4⟩
      have HB4 := Lib.hid (HB3.out.tells hb4)
      clear hb4 s0 s1 HB3 KJ
      go_upto_region 4 with fail
      have HV4 := Lib.hid (Lies.made w4 29 #[.bool false, .int .i64 0, .slice none 0 0])
      have HX4 := Lib.hid (HB4.out.tells (below_new w4 (.cells #[.bool false, .int .i64 0, .slice none 0 0] 29)))
      generalize w4.alloc (.cells #[.bool false, .int .i64 0, .slice none 0 0] 29) = X4 at HV4 HX4 ⊢
      generalize w4.heap.size = d at HV4 ⊢
      clear HB4
      obtain ⟨s0, s1⟩ := HX4.out.cells
      have KR2 := Lib.hid (refRight b l a cap hm (HT.out.below (Nat.le_refl _) HX4.out.below))
      rw [hrr] at KR2
      go_wp2_with (fail)
      with_reducible refine KR2.out.mono ?_
      rintro e w5 ⟨rfl, hb5⟩
      have HB5 := Lib.hid (HX4.out.tells hb5)
      have HV5 := Lib.hid (HV4.out.below hb5 HV4.out.lt)
      clear hb5 s0 s1 HX4 HV4 KR2
      obtain ⟨s0, s1⟩ := HB5.out.cells
      obtain ⟨v0, v1, v2⟩ := vd_cells HV5.out
      have KS : Hid (∀ W, Calls Try.prog 14 #[.agg #[.bool false, .int .i64 0, .slice none 0 0], .agg #[.bool false, .int .i64 0, .slice none 0 0]] W (Gives (.bool true) W)) := Lib.hid (fun W => by
        have := refVerdict false false 0 0 (l := []) (l' := []) (x := none) (y := none) (n := 0) (m := 0) (c := 0) (d := 0) (w := W) rfl rfl (by omega) (by omega) ints_none ints_none
        rw [same_self] at this
        exact this)
      go_wp2_with (fail)
      with_reducible refine (KS.out _).mono ?_
      rintro e w6 ⟨rfl, hb6⟩
      have HB6 := Lib.hid (HB5.out.tells hb6)
      clear hb6
      go_wp2
      go_ret
      exact ⟨rfl, HB6.out.below⟩
    · rw [hrr] at KR
      have hr : (whyF b l).1 = 0 := eq_of_beq hrr
      go_wp2_with (fail)
      with_reducible refine KR.out.mono ?_
      rintro e w3 ⟨rfl, hb3⟩
      have HB3 := Lib.hid (HB2.out.tells hb3)
      clear hb3 s0 s1 HB2 KR
      obtain ⟨s0, s1⟩ := HB3.out.cells
      have KM := Lib.hid (small b l a cap hm (HT.out.below (Nat.le_refl _) HB3.out.below))
      go_wp2_with (fail)
      with_reducible refine KM.out.mono ?_
      rintro e w4 ⟨r, rfl, hb4, hf⟩
      have HB4 := Lib.hid (HB3.out.tells hb4)
      clear hb4 s0 s1 HB3 KM hf
      obtain ⟨s0, s1⟩ := HB4.out.cells
      cases r
      · go_wp2_with (fail)
        with_reducible refine (KA.out _).mono ?_
        rintro e w9 ⟨rfl, hb9⟩
        have HB9 := Lib.hid (HB4.out.tells hb9)
        clear hb9
        go_wp2
        go_ret
        exact ⟨rfl, HB9.out.below⟩
      · clear KA
        by_cases g0 : 1 ≤ g
        · by_cases g1 : g ≤ 1049576
          · have KJ := Lib.hid (judge b g (w := w4) hr (HT.out.below (Nat.le_refl _) HB4.out.below) g0 g1)
            go_wp2_with (fail)
            with_reducible refine KJ.out.mono ?_
            rintro e w5 ⟨ok, late, R, t, rfl, hv, hrow, htt, hb5⟩
            have HB5 := Lib.hid (HB4.out.tells hb5)
            have HR5 := Lib.hid hrow
            have HD := Lib.hid hv
            clear hb5 hrow htt hv s0 s1 HB4 KJ
            go_upto_region 4 with fail
            have HV6 := Lib.hid (Lies.made w5 29 #[.bool ok, .int .i64 late, .slice (some ⟨t, 0, none⟩) l.length l.length])
            have HB6 := Lib.hid (HB5.out.tells (below_new w5 (.cells #[.bool ok, .int .i64 late, .slice (some ⟨t, 0, none⟩) l.length l.length] 29)))
            have HR6 := Lib.hid (HR5.out.tells (below_new w5 (.cells #[.bool ok, .int .i64 late, .slice (some ⟨t, 0, none⟩) l.length l.length] 29)))
            generalize w5.alloc (.cells #[.bool ok, .int .i64 late, .slice (some ⟨t, 0, none⟩) l.length l.length] 29) = X6 at HV6 HB6 HR6 ⊢
            generalize w5.heap.size = d at HV6 ⊢
            clear HB5 HR5
            obtain ⟨s0, s1⟩ := HB6.out.cells
            have KR2 := Lib.hid (refRight b l a cap hm (HT.out.below (Nat.le_refl _) HB6.out.below))
            rw [hrr] at KR2
            have t1 : decide (g < 1) = false := by simp; omega
            have t2 : decide (1049576 < g) = false := by simp; omega
            go_wp2_with (fail)
            with_reducible refine KR2.out.mono ?_
            rintro e w7 ⟨rfl, hb7⟩
            have HB7 := Lib.hid (HB6.out.tells hb7)
            have HV7 := Lib.hid (HV6.out.below hb7 HV6.out.lt)
            have HR7 := Lib.hid (HR6.out.tells hb7)
            have KQ := Lib.hid (refJudge b g (w := w7) hr (HT.out.below (Nat.le_refl _) HB7.out.below) g0 g1)
            clear hb7 s0 s1 HB6 HV6 HR6 KR2
            obtain ⟨s0, s1⟩ := HB7.out.cells
            go_wp2_with (fail)
            with_reducible refine KQ.out.mono ?_
            rintro e w8 ⟨ok2, late2, R2, t', rfl, hv, hrow, htt, hb8⟩
            obtain ⟨rfl, rfl, rfl⟩ := HD.out.same (good_of hr).dist hv
            have HB8 := Lib.hid (HB7.out.tells hb8)
            have HV8 := Lib.hid (HV7.out.below hb8 HV7.out.lt)
            have HR8 := Lib.hid (HR7.out.tells hb8)
            have HQ8 := Lib.hid hrow
            have HLR := Lib.hid hv.len
            clear hb8 hrow htt hv s0 s1 HB7 HV7 HR7 KQ
            go_upto_region 7 with fail
            have HU9 := Lib.hid (Lies.made w8 29 #[.bool ok, .int .i64 late, .slice (some ⟨t', 0, none⟩) l.length l.length])
            have HB9 := Lib.hid (HB8.out.tells (below_new w8 (.cells #[.bool ok, .int .i64 late, .slice (some ⟨t', 0, none⟩) l.length l.length] 29)))
            have HV9 := Lib.hid (HV8.out.alloc (.cells #[.bool ok, .int .i64 late, .slice (some ⟨t', 0, none⟩) l.length l.length] 29))
            have HR9 := Lib.hid (HR8.out.tells (below_new w8 (.cells #[.bool ok, .int .i64 late, .slice (some ⟨t', 0, none⟩) l.length l.length] 29)))
            have HQ9 := Lib.hid (HQ8.out.tells (below_new w8 (.cells #[.bool ok, .int .i64 late, .slice (some ⟨t', 0, none⟩) l.length l.length] 29)))
            generalize w8.alloc (.cells #[.bool ok, .int .i64 late, .slice (some ⟨t', 0, none⟩) l.length l.length] 29) = X9 at HU9 HB9 HV9 HR9 HQ9 ⊢
            generalize w8.heap.size = d2 at HU9 ⊢
            clear HB8 HV8 HR8 HQ8
            obtain ⟨v0, v1, v2⟩ := vd_cells HV9.out
            obtain ⟨u0, u1, u2⟩ := vd_cells HU9.out
            have hI := HR9.out.ints
            have hI' := HQ9.out.ints
            have hl16 := (good_of hr).n1
            rw [HLR.out] at hI hI'
            have KS := Lib.hid (refVerdict ok ok late late HLR.out HLR.out (by omega) (by omega) hI hI')
            have KT := Lib.hid (fun W (hb : Below X9.heap.size X9 W) => sameVerdict ok ok late late (w := W) HLR.out HLR.out (by omega) (by omega) (hI.tells hb) (hI'.tells hb))
            simp only [same_self] at KS KT
            clear hI hI'
            go_wp2_with (fail)
            with_reducible refine KS.out.mono ?_
            rintro e w10 ⟨rfl, hb10⟩
            have HB10 := Lib.hid (HB9.out.tells hb10)
            have HV10 := Lib.hid (HV9.out.below hb10 HV9.out.lt)
            have HU10 := Lib.hid (HU9.out.below hb10 HU9.out.lt)
            have KT' := Lib.hid (KT.out w10 hb10)
            clear hb10 v0 v1 v2 u0 u1 u2 KS KT HB9 HV9 HU9
            obtain ⟨v0, v1, v2⟩ := vd_cells HV10.out
            obtain ⟨u0, u1, u2⟩ := vd_cells HU10.out
            go_wp2_with (fail)
            with_reducible refine KT'.out.mono ?_
            rintro e w11 ⟨rfl, hb11⟩
            have HB11 := Lib.hid (HB10.out.tells hb11)
            clear hb11
            go_wp2
            go_ret
            exact ⟨rfl, HB11.out.below⟩
          · have hno : ¬ ((whyF b l).1 = 0 ∧ 1 ≤ g ∧ g ≤ 1049576) := fun h => g1 h.2.2
            have t1 : decide (g < 1) = false := by simp; omega
            have t2 : decide (1049576 < g) = true := by simp; omega
            have KJ := Lib.hid (judge_no b g (w := w4) hm (HT.out.below (Nat.le_refl _) HB4.out.below) hno)
            go_wp2_with (fail)
            with_reducible refine KJ.out.mono ?_
            rintro e w5 ⟨rfl, hb5⟩
            have HB5 := Lib.hid (HB4.out.tells hb5)
            clear hb5 s0 s1 HB4 KJ
            go_upto_region 4 with fail
            have HV5 := Lib.hid (Lies.made w5 29 #[.bool false, .int .i64 0, .slice none 0 0])
            have HX5 := Lib.hid (HB5.out.tells (below_new w5 (.cells #[.bool false, .int .i64 0, .slice none 0 0] 29)))
            generalize w5.alloc (.cells #[.bool false, .int .i64 0, .slice none 0 0] 29) = X5 at HV5 HX5 ⊢
            generalize w5.heap.size = d at HV5 ⊢
            clear HB5
            obtain ⟨s0, s1⟩ := HX5.out.cells
            have KR2 := Lib.hid (refRight b l a cap hm (HT.out.below (Nat.le_refl _) HX5.out.below))
            rw [hrr] at KR2
            go_wp2_with (fail)
            with_reducible refine KR2.out.mono ?_
            rintro e w6 ⟨rfl, hb6⟩
            have HB6 := Lib.hid (HX5.out.tells hb6)
            have HV6 := Lib.hid (HV5.out.below hb6 HV5.out.lt)
            clear hb6 s0 s1 HX5 HV5 KR2
            obtain ⟨s0, s1⟩ := HB6.out.cells
            obtain ⟨v0, v1, v2⟩ := vd_cells HV6.out
            have KS : Hid (∀ W, Calls Try.prog 14 #[.agg #[.bool false, .int .i64 0, .slice none 0 0], .agg #[.bool false, .int .i64 0, .slice none 0 0]] W (Gives (.bool true) W)) := Lib.hid (fun W => by
              have := refVerdict false false 0 0 (l := []) (l' := []) (x := none) (y := none) (n := 0) (m := 0) (c := 0) (d := 0) (w := W) rfl rfl (by omega) (by omega) ints_none ints_none
              rw [same_self] at this
              exact this)
            go_wp2_with (fail)
            with_reducible refine (KS.out _).mono ?_
            rintro e w7 ⟨rfl, hb7⟩
            have HB7 := Lib.hid (HB6.out.tells hb7)
            clear hb7
            go_wp2
            go_ret
            exact ⟨rfl, HB7.out.below⟩
        · have hno : ¬ ((whyF b l).1 = 0 ∧ 1 ≤ g ∧ g ≤ 1049576) := fun h => g0 h.2.1
          have t1 : decide (g < 1) = true := by simp; omega
          have KJ := Lib.hid (judge_no b g (w := w4) hm (HT.out.below (Nat.le_refl _) HB4.out.below) hno)
          go_wp2_with (fail)
          with_reducible refine KJ.out.mono ?_
          rintro e w5 ⟨rfl, hb5⟩
          have HB5 := Lib.hid (HB4.out.tells hb5)
          clear hb5 s0 s1 HB4 KJ
          go_upto_region 4 with fail
          have HV5 := Lib.hid (Lies.made w5 29 #[.bool false, .int .i64 0, .slice none 0 0])
          have HX5 := Lib.hid (HB5.out.tells (below_new w5 (.cells #[.bool false, .int .i64 0, .slice none 0 0] 29)))
          generalize w5.alloc (.cells #[.bool false, .int .i64 0, .slice none 0 0] 29) = X5 at HV5 HX5 ⊢
          generalize w5.heap.size = d at HV5 ⊢
          clear HB5
          obtain ⟨s0, s1⟩ := HX5.out.cells
          have KR2 := Lib.hid (refRight b l a cap hm (HT.out.below (Nat.le_refl _) HX5.out.below))
          rw [hrr] at KR2
          go_wp2_with (fail)
          with_reducible refine KR2.out.mono ?_
          rintro e w6 ⟨rfl, hb6⟩
          have HB6 := Lib.hid (HX5.out.tells hb6)
          have HV6 := Lib.hid (HV5.out.below hb6 HV5.out.lt)
          clear hb6 s0 s1 HX5 HV5 KR2
          obtain ⟨s0, s1⟩ := HB6.out.cells
          obtain ⟨v0, v1, v2⟩ := vd_cells HV6.out
          have KS : Hid (∀ W, Calls Try.prog 14 #[.agg #[.bool false, .int .i64 0, .slice none 0 0], .agg #[.bool false, .int .i64 0, .slice none 0 0]] W (Gives (.bool true) W)) := Lib.hid (fun W => by
            have := refVerdict false false 0 0 (l := []) (l' := []) (x := none) (y := none) (n := 0) (m := 0) (c := 0) (d := 0) (w := W) rfl rfl (by omega) (by omega) ints_none ints_none
            rw [same_self] at this
            exact this)
          go_wp2_with (fail)
          with_reducible refine (KS.out _).mono ?_
          rintro e w7 ⟨rfl, hb7⟩
          have HB7 := Lib.hid (HB6.out.tells hb7)
          clear hb7
          go_wp2
          go_ret
          exact ⟨rfl, HB7.out.below⟩

end Go.Proofs.Ytklnokhabomnfaa
