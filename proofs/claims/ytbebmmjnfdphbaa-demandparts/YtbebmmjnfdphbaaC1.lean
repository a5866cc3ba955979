/- The walk of the statement on parts. -/
import Derived.Test.YtbebmmjnfdphbaaAw
import Derived.Lib.QuietBelow
namespace Go.Proofs.Ytbebmmjnfdphbaa
open Go.RowKit

/-- As Parted, so many of them. -/
def PartedN (n : Nat) (l : List Int) (w : World) (e : Ending) (w' : World) : Prop := ∃ g c, e = .returned (.slice (some ⟨g, 0, none⟩) n c) ∧ w.heap.size ≤ g ∧ n ≤ c ∧ Rest w' g 0 l ∧ Below w.heap.size w w'
theorem partsN {t : Tk} {d s : Int} {n : Nat} (h : Fine t) (hw : Ways t d n s) (hd : d ≤ t.C) (hC : t.C ≤ 3000) (w : World) : Calls Try.prog 10 #[aggK t, .int .i64 d] w (PartedN n (pl s t.Cost d n) w) :=
  (parts h hw hd hC w).mono (by
    rintro e w' ⟨g, c, h1, h2, h3, h4, h5⟩
    rw [length_pl] at h1 h3
    exact ⟨g, c, h1, h2, h3, h4, h5⟩)
theorem refPartsN {t : Tk} {d s : Int} {n : Nat} (h : Fine t) (hw : Ways t d n s) (hd : d ≤ t.C) (hC : t.C ≤ 3000) (w : World) : Calls Try.prog 14 #[aggK t, .int .i64 d] w (PartedN n (pl s t.Cost d n) w) :=
  (refParts h hw hd hC w).mono (by
    rintro e w' ⟨g, c, h1, h2, h3, h4, h5⟩
    rw [length_pl] at h1 h3
    exact ⟨g, c, h1, h2, h3, h4, h5⟩)

set_option maxRecDepth 100000 in
set_option maxHeartbeats 8000000 in
theorem coreParts (t : Tk) (d : Int) (w : World) : Calls Try.prog 3 #[aggK t, .int .i64 d] w (Woke w) := by
  have HB := Lib.hid (Box.made w t)
  have KR := Lib.hid (fun W => refRightT t W)
  have HF := Lib.hid (fun h => fine_right (t := t) h)
  simp only [boxT] at HB
  simp only [aggK] at KR ⊢
  go_enter Try.func3, Try.ntmps3
  go_wp2_with (fail)
  refine (awake _).mono ?_
  rintro e w1 ⟨rfl, hb1⟩
  have HB1 := Lib.hid (HB.out.tells hb1)
  clear hb1 HB
  obtain ⟨y0, y1, y2, y3, y4, y5, y6, y7, y8, y9, y10⟩ := HB1.out.cells
  by_cases hn : 60 < t.name.size
  · have t1 : decide ((60 : Int) < (t.name.size : Int)) = true := by simp; omega
    go_wp2_with (fail)
    refine (awake _).mono ?_
    rintro e w9 ⟨rfl, hb9⟩
    have H9 := Lib.hid (HB1.out.tells hb9)
    clear hb9
    go_wp2
    go_ret
    exact ⟨rfl, H9.out.below⟩
  · have t1 : decide ((60 : Int) < (t.name.size : Int)) = false := by simp; omega
    go_wp2_with (fail)
    with_reducible refine (KR.out _).mono ?_
    rintro e w2 ⟨rfl, hb2⟩
    have HB2 := Lib.hid (HB1.out.tells hb2)
    clear hb2 y0 y1 y2 y3 y4 y5 y6 y7 y8 y9 y10 HB1 KR t1
    obtain ⟨y0, y1, y2, y3, y4, y5, y6, y7, y8, y9, y10⟩ := HB2.out.cells
    cases hR : rightT t with
    | false =>
      clear hR
      go_wp2_with (fail)
      refine (awake _).mono ?_
      rintro e w9 ⟨rfl, hb9⟩
      have H9 := Lib.hid (HB2.out.tells hb9)
      clear hb9
      go_wp2
      go_ret
      exact ⟨rfl, H9.out.below⟩
    | true =>
      have hf := HF.out hR
      clear hR HF hn
      by_cases hC : 3000 < t.C
      · have t1 : decide (3000 < t.C) = true := decide_eq_true hC
        go_wp2_with (fail)
        refine (awake _).mono ?_
        rintro e w9 ⟨rfl, hb9⟩
        have H9 := Lib.hid (HB2.out.tells hb9)
        clear hb9
        go_wp2
        go_ret
        exact ⟨rfl, H9.out.below⟩
      · have t1 : decide (3000 < t.C) = false := decide_eq_false hC
        have hC3 : t.C ≤ 3000 := by omega
        obtain ⟨b1, b2, b3, b4, _, _⟩ := hf.nums
        clear hC
        by_cases h1 : d < 1
        · have t2 : decide (d < 1) = true := by simp; omega
          have t3 : decide (t.C < d) = false := by simp; omega
          have t4 : decide (1 ≤ d) = false := by simp; omega
          have t5 : decide (d ≤ t.C) = true := by simp; omega
          have KP := Lib.hid (fun W => parts_no (t := t) (d := d) (.inl h1) W)
          have KC : Hid (∀ W, Calls Try.prog 11 #[aggK t, .int .i64 d] W (Gives (.tuple #[.int .i64 1, .bool false]) W)) := Lib.hid (fun W => by
            have := cut (t := t) d W
            rw [show cutV t d = 1 by unfold cutV; rw [if_neg (by omega), if_pos h1], show decide (t.C < d) = false by simp; omega] at this
            exact this)
          have KX := Lib.hid (fun W => extra hf W)
          have KE := Lib.hid (fun W => refExtra hf W)
          simp only [aggK] at KP KC KX KE
          clear hf
          go_wp2_with (fail)
          with_reducible refine (KP.out _).mono ?_
          rintro e w3 ⟨rfl, hb3⟩
          have HB3 := Lib.hid (HB2.out.tells hb3)
          clear hb3
          clear y0 y1 y2 y3 y4 y5 y6 y7 y8 y9 y10
          obtain ⟨y0, y1, y2, y3, y4, y5, y6, y7, y8, y9, y10⟩ := HB3.out.cells
          go_wp2_with (fail)
          with_reducible refine (KC.out _).mono ?_
          rintro e w4 ⟨rfl, hb4⟩
          have HB4 := Lib.hid (HB3.out.tells hb4)
          clear hb4 HB2 HB3 KP KC
          clear y0 y1 y2 y3 y4 y5 y6 y7 y8 y9 y10
          obtain ⟨y0, y1, y2, y3, y4, y5, y6, y7, y8, y9, y10⟩ := HB4.out.cells
          have k_y0 := cell_regrown y0
          have k_y1 := cell_regrown y1
          have k_y2 := cell_regrown y2
          have k_y3 := cell_regrown y3
          have k_y4 := cell_regrown y4
          have k_y5 := cell_regrown y5
          have k_y6 := cell_regrown y6
          have k_y7 := cell_regrown y7
          have k_y8 := cell_regrown y8
          have k_y9 := cell_regrown y9
          have k_y10 := cell_regrown y10
          have cX := fun d os => Calls.regrown_of (w := w4) (d := d) (os := os) (v := .int .i64 (extraV t)) (KX.out _)
          have cE := fun d os => Calls.regrown_of (w := w4) (d := d) (os := os) (v := .int .i64 (extraV t)) (KE.out _)
          clear KX KE
          generalize extraV t = ev at cX cE
          go_wp2_with (fail)
          refine wp_region_quiet_below (by kernel_rfl) (by kernel_rfl) ?_
          repeat (go_big_quiet_step (with_reducible first | exact cX _ _ | exact cE _ _))
          refine wpQuiet_nil ?_
          intro _ hw'
          obtain ⟨⟨dq, osq⟩, hw''⟩ := hw'
          subst hw''
          have HB5 := Lib.hid (HB4.out.tells (below_regrown w4 dq osq))
          clear k_y0 k_y1 k_y2 k_y3 k_y4 k_y5 k_y6 k_y7 k_y8 k_y9 k_y10 cX cE y0 y1 y2 y3 y4 y5 y6 y7 y8 y9 y10
          go_wp2
          go_ret
          exact ⟨rfl, HB5.out.below⟩
        · by_cases h2 : t.C < d
          · have t2 : decide (d < 1) = false := by simp; omega
            have t3 : decide (t.C < d) = true := by simp; omega
            have t4 : decide (1 ≤ d) = true := by simp; omega
            have t5 : decide (d ≤ t.C) = false := by simp; omega
            have KP := Lib.hid (fun W => parts_no (t := t) (d := d) (.inr h2) W)
            have KC : Hid (∀ W, Calls Try.prog 11 #[aggK t, .int .i64 d] W (Gives (.tuple #[.int .i64 t.C, .bool true]) W)) := Lib.hid (fun W => by
              have := cut (t := t) d W
              rw [show cutV t d = t.C by unfold cutV; rw [if_pos h2], show decide (t.C < d) = true by simp; omega] at this
              exact this)
            have KX := Lib.hid (fun W => extra hf W)
            have KE := Lib.hid (fun W => refExtra hf W)
            simp only [aggK] at KP KC KX KE
            clear hf
            go_wp2_with (fail)
            with_reducible refine (KP.out _).mono ?_
            rintro e w3 ⟨rfl, hb3⟩
            have HB3 := Lib.hid (HB2.out.tells hb3)
            clear hb3
            clear y0 y1 y2 y3 y4 y5 y6 y7 y8 y9 y10
            obtain ⟨y0, y1, y2, y3, y4, y5, y6, y7, y8, y9, y10⟩ := HB3.out.cells
            go_wp2_with (fail)
            with_reducible refine (KC.out _).mono ?_
            rintro e w4 ⟨rfl, hb4⟩
            have HB4 := Lib.hid (HB3.out.tells hb4)
            clear hb4 HB2 HB3 KP KC
            clear y0 y1 y2 y3 y4 y5 y6 y7 y8 y9 y10
            obtain ⟨y0, y1, y2, y3, y4, y5, y6, y7, y8, y9, y10⟩ := HB4.out.cells
            have k_y0 := cell_regrown y0
            have k_y1 := cell_regrown y1
            have k_y2 := cell_regrown y2
            have k_y3 := cell_regrown y3
            have k_y4 := cell_regrown y4
            have k_y5 := cell_regrown y5
            have k_y6 := cell_regrown y6
            have k_y7 := cell_regrown y7
            have k_y8 := cell_regrown y8
            have k_y9 := cell_regrown y9
            have k_y10 := cell_regrown y10
            have cX := fun d os => Calls.regrown_of (w := w4) (d := d) (os := os) (v := .int .i64 (extraV t)) (KX.out _)
            have cE := fun d os => Calls.regrown_of (w := w4) (d := d) (os := os) (v := .int .i64 (extraV t)) (KE.out _)
            clear KX KE
            generalize extraV t = ev at cX cE
            go_wp2_with (fail)
            refine wp_region_quiet_below (by kernel_rfl) (by kernel_rfl) ?_
            repeat (go_big_quiet_step (with_reducible first | exact cX _ _ | exact cE _ _))
            refine wpQuiet_nil ?_
            intro _ hw'
            obtain ⟨⟨dq, osq⟩, hw''⟩ := hw'
            subst hw''
            have HB5 := Lib.hid (HB4.out.tells (below_regrown w4 dq osq))
            clear k_y0 k_y1 k_y2 k_y3 k_y4 k_y5 k_y6 k_y7 k_y8 k_y9 k_y10 cX cE y0 y1 y2 y3 y4 y5 y6 y7 y8 y9 y10
            obtain ⟨y0, y1, y2, y3, y4, y5, y6, y7, y8, y9, y10⟩ := HB5.out.cells
            go_wp2
            go_ret
            exact ⟨rfl, HB5.out.below⟩
          · obtain ⟨n, s, hw⟩ := ways_of hf (show 1 ≤ d by omega)
            have t2 : decide (d < 1) = false := by simp; omega
            have t3 : decide (t.C < d) = false := by simp; omega
            have t4 : decide (1 ≤ d) = true := by simp; omega
            have t5 : decide (d ≤ t.C) = true := by simp; omega
            have KP := Lib.hid (fun W => partsN hf hw (by omega) hC3 W)
            have KC : Hid (∀ W, Calls Try.prog 11 #[aggK t, .int .i64 d] W (Gives (.tuple #[.int .i64 d, .bool false]) W)) := Lib.hid (fun W => by
              have := cut (t := t) d W
              rw [show cutV t d = d by unfold cutV; rw [if_neg (by omega), if_neg h1], show decide (t.C < d) = false by simp; omega] at this
              exact this)
            have KX := Lib.hid (fun W => extra hf W)
            have KE := Lib.hid (fun W => refExtra hf W)
            have KQ := Lib.hid (fun W => (refPartsN hf hw (by omega) hC3 W))
            have HL := Lib.hid (length_pl s t.Cost d n)
            have hn3 : n ≤ 3000 := by have := hw.cuts.few; omega
            generalize pl s t.Cost d n = L at KP KQ HL
            clear hw
            simp only [aggK] at KQ
            simp only [aggK] at KP KC KX KE
            clear hf
            go_wp2_with (fail)
            with_reducible refine (KP.out _).mono ?_
            rintro e w3 ⟨g, c, rfl, hg, hc, hr, hb3⟩
            have HB3 := Lib.hid (HB2.out.tells hb3)
            have HR3 := Lib.hid hr
            clear hb3 hr hg
            clear y0 y1 y2 y3 y4 y5 y6 y7 y8 y9 y10
            obtain ⟨y0, y1, y2, y3, y4, y5, y6, y7, y8, y9, y10⟩ := HB3.out.cells
            go_wp2_with (fail)
            with_reducible refine (KC.out _).mono ?_
            rintro e w4 ⟨rfl, hb4⟩
            have HB4 := Lib.hid (HB3.out.tells hb4)
            have HR4 := Lib.hid (HR3.out.tells hb4)
            clear HR3
            clear hb4 HB2 HB3 KP KC
            clear y0 y1 y2 y3 y4 y5 y6 y7 y8 y9 y10
            obtain ⟨y0, y1, y2, y3, y4, y5, y6, y7, y8, y9, y10⟩ := HB4.out.cells
            have k_y0 := cell_regrown y0
            have k_y1 := cell_regrown y1
            have k_y2 := cell_regrown y2
            have k_y3 := cell_regrown y3
            have k_y4 := cell_regrown y4
            have k_y5 := cell_regrown y5
            have k_y6 := cell_regrown y6
            have k_y7 := cell_regrown y7
            have k_y8 := cell_regrown y8
            have k_y9 := cell_regrown y9
            have k_y10 := cell_regrown y10
            have cX := fun d os => Calls.regrown_of (w := w4) (d := d) (os := os) (v := .int .i64 (extraV t)) (KX.out _)
            have cE := fun d os => Calls.regrown_of (w := w4) (d := d) (os := os) (v := .int .i64 (extraV t)) (KE.out _)
            clear KX KE
            generalize extraV t = ev at cX cE
            go_wp2_with (fail)
            refine wp_region_quiet_below (by kernel_rfl) (by kernel_rfl) ?_
            repeat (go_big_quiet_step (with_reducible first | exact cX _ _ | exact cE _ _))
            refine wpQuiet_nil ?_
            intro _ hw'
            obtain ⟨⟨dq, osq⟩, hw''⟩ := hw'
            subst hw''
            have HB5 := Lib.hid (HB4.out.tells (below_regrown w4 dq osq))
            clear k_y0 k_y1 k_y2 k_y3 k_y4 k_y5 k_y6 k_y7 k_y8 k_y9 k_y10 cX cE y0 y1 y2 y3 y4 y5 y6 y7 y8 y9 y10
            have HR5 := Lib.hid (HR4.out.tells (below_regrown w4 dq osq))
            obtain ⟨y0, y1, y2, y3, y4, y5, y6, y7, y8, y9, y10⟩ := HB5.out.cells
            go_wp2_with (fail)
            with_reducible refine (KQ.out _).mono ?_
            rintro e w6 ⟨g2, c2, rfl, hg2, hc2, hr2, hb6⟩
            have HB6 := Lib.hid (HB5.out.tells hb6)
            have HR6 := Lib.hid (HR5.out.tells hb6)
            have HQ6 := Lib.hid hr2
            clear hb6 hr2 hg2 HR4 HR5 HB4 HB5 KQ y0 y1 y2 y3 y4 y5 y6 y7 y8 y9 y10
            go_wp2
            go_loopw [9] (fun i W => ∃ k q : Nat, k ≤ n ∧ i = .int .i64 (k : Int) ∧ W = w6.drewN q) (fun i _ => n - (intOf i).toNat)
            case atStart => exact ⟨0, 0, by omega, rfl, rfl⟩
            case round =>
              obtain ⟨k, q, hk, rfl, rfl⟩ := hrel
              by_cases hlt : k < n
              · have t6 : decide ((k : Int) < (n : Int)) = true := by simp; omega
                have hy : L[k]? = some (L[k]'(by have := HL.out; omega)) := List.getElem?_eq_getElem _
                have c1 := HR6.out.cell (Nat.zero_le k) hy
                have c2' := HQ6.out.cell (Nat.zero_le k) hy
                have q1 : (0 : Int) ≤ (k : Int) := by omega
                have q2 : (k : Int) < (n : Int) := by omega
                clear hy
                generalize L[k]'_ = x at c1 c2'
                go_wp2
                go_region
                all_goals
                  go_wp2
                  go_roundw
                  case rel => exact ⟨k + 1, _, by omega, by go_num, rfl⟩
                  case measure => simp [intOf]; omega
              · have t6 : decide ((k : Int) < (n : Int)) = false := by simp; omega
                go_wp2
                go_ret
                exact ⟨rfl, below_drewN HB6.out.below q⟩
end Go.Proofs.Ytbebmmjnfdphbaa
