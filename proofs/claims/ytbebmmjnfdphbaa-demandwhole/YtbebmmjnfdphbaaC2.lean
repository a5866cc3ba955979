/- The walk of the statement on the whole demand. -/
import Derived.Test.YtbebmmjnfdphbaaDn
namespace Go.Proofs.Ytbebmmjnfdphbaa
open Go.RowKit

set_option maxRecDepth 100000 in
set_option maxHeartbeats 8000000 in
theorem coreWhole (t : Tk) (d : Int) (w : World) : Calls Try.prog 4 #[aggK t, .int .i64 d] w (Woke w) := by
  have HB := Lib.hid (Box.made w t)
  have KR := Lib.hid (fun W => refRightT t W)
  have HF := Lib.hid (fun h => fine_right (t := t) h)
  simp only [boxT] at HB
  simp only [aggK] at KR ⊢
  go_enter Try.func4, Try.ntmps4
  go_wp2_with (fail)
  refine (awake _).mono ?_
  rintro e w1 ⟨rfl, hb1⟩
  have HB1 := Lib.hid (HB.out.tells hb1)
  clear hb1 HB
  obtain ⟨y0, y1, y2, y3, y4, y5, y6, y7, y8, y9, y10⟩ := HB1.out.cells
  by_cases hn : 60 < t.name.size
  · have t1 : decide ((60 : Int) < (t.name.size : Int)) = true := by simp; omega
    go_wp2_with (fail)
    refine (awake _).mono ?_
    rintro e w9 ⟨rfl, hb9⟩
    have H9 := Lib.hid (HB1.out.tells hb9)
    clear hb9
    go_wp2
    go_ret
    exact ⟨rfl, H9.out.below⟩
  · have t1 : decide ((60 : Int) < (t.name.size : Int)) = false := by simp; omega
    go_wp2_with (fail)
    with_reducible refine (KR.out _).mono ?_
    rintro e w2 ⟨rfl, hb2⟩
    have HB2 := Lib.hid (HB1.out.tells hb2)
    clear hb2 y0 y1 y2 y3 y4 y5 y6 y7 y8 y9 y10 HB1 KR t1
    obtain ⟨y0, y1, y2, y3, y4, y5, y6, y7, y8, y9, y10⟩ := HB2.out.cells
    cases hR : rightT t with
    | false =>
      clear hR
      go_wp2_with (fail)
      refine (awake _).mono ?_
      rintro e w9 ⟨rfl, hb9⟩
      have H9 := Lib.hid (HB2.out.tells hb9)
      clear hb9
      go_wp2
      go_ret
      exact ⟨rfl, H9.out.below⟩
    | true =>
      have hf := HF.out hR
      clear hR HF hn
      by_cases hC : 3000 < t.C
      · have t1 : decide (3000 < t.C) = true := decide_eq_true hC
        go_wp2_with (fail)
        refine (awake _).mono ?_
        rintro e w9 ⟨rfl, hb9⟩
        have H9 := Lib.hid (HB2.out.tells hb9)
        clear hb9
        go_wp2
        go_ret
        exact ⟨rfl, H9.out.below⟩
      · have t1 : decide (3000 < t.C) = false := decide_eq_false hC
        have hC3 : t.C ≤ 3000 := by omega
        obtain ⟨b1, b2, b3, b4, _, _⟩ := hf.nums
        clear hC
        obtain ⟨N, sA, hwA⟩ := ways_of hf b1
        obtain ⟨x, hx⟩ : ∃ x, x = cutV t d := ⟨_, rfl⟩
        obtain ⟨o, ho⟩ : ∃ o, o = decide (t.C < d) := ⟨_, rfl⟩
        have hx1 : 1 ≤ x := by rw [hx]; unfold cutV; split <;> (try split) <;> omega
        have hxC : x ≤ t.C := by rw [hx]; unfold cutV; split <;> (try split) <;> omega
        obtain ⟨M, sB, hwB⟩ := ways_of hf hx1
        have KA := Lib.hid (fun W => partsN hf hwA (by omega) hC3 W)
        have KB := Lib.hid (fun W => partsN hf hwB hxC hC3 W)
        have KC := Lib.hid (fun W => cut (t := t) d W)
        rw [← hx, ← ho] at KC
        have KX := Lib.hid (fun W => extra hf W)
        have KW := Lib.hid (fun W => wholeAny hf W)
        have hev := extra_pos hf
        have hwv := (whole_nums hf).1
        have HA := Lib.hid (parts_whole hf hwA)
        have hBs := parts_less hf hwB hwA hxC
        obtain ⟨hB1, hB2, hB3, hB4⟩ := hBs
        rw [HA.out] at hB1
        have PA := Lib.hid (pl_small hf hwA (Int.le_refl _) hC3)
        have PB := Lib.hid (pl_small hf hwB hxC hC3)
        have LA := Lib.hid (length_pl sA t.Cost t.C N)
        have LB := Lib.hid (length_pl sB t.Cost x M)
        have hN : N ≤ 3000 := by have := hwA.cuts.few; omega
        have PR : Hid (∀ (i : Nat) (y : Int), (pl sB t.Cost x M)[i]? = some y → 1 ≤ y ∧ (t.Mode = 1 → y ≤ extraV t)) := Lib.hid (fun i y hy => by
          have h1 := pl_range hf hwB hy
          refine ⟨h1.1, fun hm => ?_⟩
          have h2 := hwB.retry hm
          unfold extraV
          rw [if_pos hm]
          omega)
        simp only [aggK] at KA KB KC KX KW
        generalize pl sA t.Cost t.C N = A at KA HA PA LA
        generalize pl sB t.Cost x M = B at KB PB LB PR hB1 hB2
        generalize extraV t = ev at *
        generalize wholeV t = wv at *
        obtain ⟨sb, hsb⟩ : ∃ sb, sb = B.sum := ⟨_, rfl⟩
        rw [← hsb] at hB1 hB2
        have HSB := Lib.hid hsb.symm
        clear hx ho hf hwA hwB hsb
        go_wp2_with (fail)
        with_reducible refine (KA.out _).mono ?_
        rintro e w3 ⟨g, c, rfl, hg, hc, hr, hb3⟩
        have HB3 := Lib.hid (HB2.out.tells hb3)
        have HR3 := Lib.hid hr
        clear hb3 hr hg HB2 KA
        clear y0 y1 y2 y3 y4 y5 y6 y7 y8 y9 y10
        obtain ⟨y0, y1, y2, y3, y4, y5, y6, y7, y8, y9, y10⟩ := HB3.out.cells
        have k_y0 := cell_regrown y0
        have k_y1 := cell_regrown y1
        have k_y2 := cell_regrown y2
        have k_y3 := cell_regrown y3
        have k_y4 := cell_regrown y4
        have k_y5 := cell_regrown y5
        have k_y6 := cell_regrown y6
        have k_y7 := cell_regrown y7
        have k_y8 := cell_regrown y8
        have k_y9 := cell_regrown y9
        have k_y10 := cell_regrown y10
        have cS := fun d os => Calls.regrown_of (w := w3) (d := d) (os := os) (v := .int .i64 wv) (sumG LA.out (by omega) PA.out hc (HR3.out.tells (below_regrown w3 d os)) HA.out)
        have cW := fun d os => Calls.regrown_of (w := w3) (d := d) (os := os) (v := .int .i64 wv) (KW.out _)
        have cX := fun d os => Calls.regrown_of (w := w3) (d := d) (os := os) (v := .int .i64 ev) (KX.out _)
        have f1 : decide (wv < t.C) = false := by simp; omega
        have f2 : decide (ev < 1) = false := by simp; omega
        go_wp2
        refine wp_region_quiet_below (by kernel_rfl) (by kernel_rfl) ?_
        repeat (go_big_quiet_step (with_reducible first | exact cS _ _ | exact cW _ _ | exact cX _ _))
        refine wpQuiet_nil ?_
        intro _ hw'
        obtain ⟨⟨dq, osq⟩, hw''⟩ := hw'
        subst hw''
        have HB4 := Lib.hid (HB3.out.tells (below_regrown w3 dq osq))
        have HR4 := Lib.hid (HR3.out.tells (below_regrown w3 dq osq))
        clear k_y0 k_y1 k_y2 k_y3 k_y4 k_y5 k_y6 k_y7 k_y8 k_y9 k_y10 cS cW cX HB3 HR3
        clear y0 y1 y2 y3 y4 y5 y6 y7 y8 y9 y10
        obtain ⟨y0, y1, y2, y3, y4, y5, y6, y7, y8, y9, y10⟩ := HB4.out.cells
        go_wp2_with (fail)
        with_reducible refine (KC.out _).mono ?_
        rintro e w5 ⟨rfl, hb5⟩
        have HB5 := Lib.hid (HB4.out.tells hb5)
        have HR5 := Lib.hid (HR4.out.tells hb5)
        clear hb5 HB4 HR4 KC
        clear y0 y1 y2 y3 y4 y5 y6 y7 y8 y9 y10
        obtain ⟨y0, y1, y2, y3, y4, y5, y6, y7, y8, y9, y10⟩ := HB5.out.cells
        go_wp2_with (fail)
        with_reducible refine (KB.out _).mono ?_
        rintro e w6 ⟨g2, c2, rfl, hg2, hc2, hr2, hb6⟩
        have HB6 := Lib.hid (HB5.out.tells hb6)
        have HR6 := Lib.hid hr2
        clear hb6 hr2 hg2 HB5 HR5 KB
        clear y0 y1 y2 y3 y4 y5 y6 y7 y8 y9 y10
        obtain ⟨y0, y1, y2, y3, y4, y5, y6, y7, y8, y9, y10⟩ := HB6.out.cells
        have k_y0 := cell_regrown y0
        have k_y1 := cell_regrown y1
        have k_y2 := cell_regrown y2
        have k_y3 := cell_regrown y3
        have k_y4 := cell_regrown y4
        have k_y5 := cell_regrown y5
        have k_y6 := cell_regrown y6
        have k_y7 := cell_regrown y7
        have k_y8 := cell_regrown y8
        have k_y9 := cell_regrown y9
        have k_y10 := cell_regrown y10
        have cS := fun d os => Calls.regrown_of (w := w6) (d := d) (os := os) (v := .int .i64 sb) (sumG LB.out (by omega) PB.out hc2 (HR6.out.tells (below_regrown w6 d os)) HSB.out)
        have cW := fun d os => Calls.regrown_of (w := w6) (d := d) (os := os) (v := .int .i64 wv) (KW.out _)
        have f3 : decide (wv < sb) = false := by simp; omega
        have f4 : decide (sb < x) = false := by simp; omega
        have f5 : decide (N < M) = false := by simp; omega
        have f5' : decide ((N : Int) < (M : Int)) = false := by simp; omega
        have f6 : ((M : Int) == 0) = false := by simp; omega
        have f7 : (M == 0) = false := by simp; omega
        go_wp2
        refine wp_region_quiet_below (by kernel_rfl) (by kernel_rfl) ?_
        repeat (go_big_quiet_step (with_reducible first | exact cS _ _ | exact cW _ _))
        refine wpQuiet_nil ?_
        intro _ hw'
        obtain ⟨⟨dq2, osq2⟩, hw''⟩ := hw'
        subst hw''
        have HB7 := Lib.hid (HB6.out.tells (below_regrown w6 dq2 osq2))
        have HR7 := Lib.hid (HR6.out.tells (below_regrown w6 dq2 osq2))
        clear k_y0 k_y1 k_y2 k_y3 k_y4 k_y5 k_y6 k_y7 k_y8 k_y9 k_y10 cS cW HB6 HR6
        clear y0 y1 y2 y3 y4 y5 y6 y7 y8 y9 y10
        go_wp2
        go_loopw [9] (fun i W => ∃ k : Nat, k ≤ M ∧ i = .int .i64 (k : Int) ∧ Box w t W ∧ Rest W g2 0 B) (fun i _ => M - (intOf i).toNat)
        case atStart => exact ⟨0, by omega, rfl, HB7.out, HR7.out⟩
        case round =>
          obtain ⟨k, hk, rfl, hbx, hre⟩ := hrel
          have HX := Lib.hid hbx
          have HO := Lib.hid hre
          clear hbx hre
          by_cases hlt : k < M
          · have t6 : decide ((k : Int) < (M : Int)) = true := by simp; omega
            have hy : B[k]? = some (B[k]'(by have := LB.out; omega)) := List.getElem?_eq_getElem _
            have v0 := HO.out.cell (Nat.zero_le k) hy
            obtain ⟨p1, p2⟩ := PR.out k _ hy
            have q1 : (0 : Int) ≤ (k : Int) := by omega
            have q2 : (k : Int) < (M : Int) := by omega
            clear hy
            generalize B[k]'_ = y at v0 p1 p2
            obtain ⟨y0, y1, y2, y3, y4, y5, y6, y7, y8, y9, y10⟩ := HX.out.cells
            have k_y0 := cell_regrown y0
            have k_y1 := cell_regrown y1
            have k_y2 := cell_regrown y2
            have k_y3 := cell_regrown y3
            have k_y4 := cell_regrown y4
            have k_y5 := cell_regrown y5
            have k_y6 := cell_regrown y6
            have k_y7 := cell_regrown y7
            have k_y8 := cell_regrown y8
            have k_y9 := cell_regrown y9
            have k_y10 := cell_regrown y10
            have k_v0 := cell_regrown v0
            have cX := fun d os => Calls.regrown_of (w := wr) (d := d) (os := os) (v := .int .i64 ev) (KX.out _)
            have f8 : decide (y < 1) = false := by simp; omega
            by_cases hm : t.Mode = 1
            · have f9 : (t.Mode == 1) = true := by simp [hm]
              have f10 : decide (ev < y) = false := by have := p2 hm; simp; omega
              clear p2 hm
              go_wp2
              refine wp_region_quiet_below (by kernel_rfl) (by kernel_rfl) ?_
              repeat (go_big_quiet_step (with_reducible first | exact cX _ _))
              refine wpQuiet_nil ?_
              intro _ hw'
              obtain ⟨⟨dq3, osq3⟩, hw''⟩ := hw'
              subst hw''
              have HX2 := Lib.hid (HX.out.tells (below_regrown wr dq3 osq3))
              have HO2 := Lib.hid (HO.out.tells (below_regrown wr dq3 osq3))
              go_wp2
              go_roundw
              case rel => exact ⟨k + 1, by omega, by go_num, HX2.out, HO2.out⟩
              case measure => simp [intOf]; omega
            · have f9 : (t.Mode == 1) = false := by simp [hm]
              clear p2 hm
              go_wp2
              refine wp_region_quiet_below (by kernel_rfl) (by kernel_rfl) ?_
              repeat (go_big_quiet_step (with_reducible first | exact cX _ _))
              refine wpQuiet_nil ?_
              intro _ hw'
              obtain ⟨⟨dq3, osq3⟩, hw''⟩ := hw'
              subst hw''
              have HX2 := Lib.hid (HX.out.tells (below_regrown wr dq3 osq3))
              have HO2 := Lib.hid (HO.out.tells (below_regrown wr dq3 osq3))
              go_wp2
              go_roundw
              case rel => exact ⟨k + 1, by omega, by go_num, HX2.out, HO2.out⟩
              case measure => simp [intOf]; omega
          · have t6 : decide ((k : Int) < (M : Int)) = false := by simp; omega
            go_wp2
            go_ret
            exact ⟨rfl, HX.out.below⟩
end Go.Proofs.Ytbebmmjnfdphbaa
