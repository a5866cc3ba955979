/- The walk of the statement on what is printed. -/
import Derived.Test.YtbijgmaeechmoaaDoorAw
import Derived.Test.YtbijgmaeechmoaaDoorKRx
namespace Go.Proofs.YtbijgmaeechmoaaDoor
open Go.RowKit Kx
set_option maxRecDepth 100000

set_option maxHeartbeats 8000000 in
theorem coreSets (b : Int) (l : List Tk) (a : Option Addr) (cap : Nat) (t : Tk) (m : Int) {w : World} (hm : l.length ≤ maxLen) (ht : Tasks w a cap l) (hi : Ints t) (hs : t.name.size ≤ maxLen) (hT : Tab w) :
    Calls Tryd.prog 3 #[.agg #[.int .i64 b, .slice a l.length cap], aggK t, .int .i64 m] w (Woke w) := by
  obtain ⟨g, hg⟩ : ∃ g, g = w.heap.size := ⟨_, rfl⟩
  have HG := Lib.hid hg
  obtain ⟨V, hV⟩ : ∃ V, V = (w.alloc (.cells #[.int .i64 b, .slice a l.length cap] 24)).alloc (.cells #[.string t.name, .int .i64 t.T, .int .i64 t.D, .int .i64 t.C, .int .i64 t.A, .int .i64 t.Seg, .int .i64 t.Cost, .int .i64 t.M, .int .i64 t.K, .int .i64 t.Mode, .int .i64 t.Prio] 26) := ⟨_, rfl⟩
  have HV := Lib.hid hV
  have HB0 := Lib.hid (show Below g w V by rw [hV, hg]; exact (below_new _ _).alloc (by simp) _)
  have HS0 := Lib.hid (show Lies V g 24 #[.int .i64 b, .slice a l.length cap] by rw [hV, hg]; exact (Lies.made _ _ _).alloc _)
  have HK0 := Lib.hid (show Lies V (g + 1) 26 #[.string t.name, .int .i64 t.T, .int .i64 t.D, .int .i64 t.C, .int .i64 t.A, .int .i64 t.Seg, .int .i64 t.Cost, .int .i64 t.M, .int .i64 t.K, .int .i64 t.Mode, .int .i64 t.Prio] by
    rw [hV, hg]
    have := Lies.made (w.alloc (.cells #[.int .i64 b, .slice a l.length cap] 24)) 26 #[.string t.name, .int .i64 t.T, .int .i64 t.D, .int .i64 t.C, .int .i64 t.A, .int .i64 t.Seg, .int .i64 t.Cost, .int .i64 t.M, .int .i64 t.K, .int .i64 t.Mode, .int .i64 t.Prio]
    simpa using this)
  have HT := Lib.hid (show Tasks V a cap l from ht.below (B := g) (by omega) HB0.out)
  have HTB := Lib.hid (hT.below (w' := V) (by rw [← hg]; exact HB0.out))
  have hgV : g ≤ V.heap.size := Nat.le_of_lt HS0.out.lt
  have HM := Lib.hid hm
  have HI := Lib.hid hi
  have KA := Lib.hid (awake V HTB.out)
  clear hg hV hm ht hi hT
  simp only [aggK]
  unfold maxLen at hs
  go_enter Tryd.func3, Tryd.ntmps3
  go_upto_region 1 with fail
  rw [← HV.out]
  try rw [← HG.out]
  go_wp2_with (fail)
  with_reducible refine KA.out.mono ?_
  rintro e w1 ⟨rfl, hb1⟩
  have HB1 := Lib.hid (HB0.out.trans (hb1.mono hgV))
  have HS1 := Lib.hid (HS0.out.below hb1 HS0.out.lt)
  have HK1 := Lib.hid (HK0.out.below hb1 HK0.out.lt)
  have HT1 := Lib.hid (HT.out.below (Nat.le_refl _) hb1)
  have HTB1 := Lib.hid (HTB.out.below hb1)
  have hgW : g ≤ w1.heap.size := Nat.le_of_lt HS1.out.lt
  clear hb1 KA HS0 HK0 HT HTB HB0 hgV
  have KF := Lib.hid (few b l a cap HM.out HT1.out)
  have y0 : w1.cell? ⟨g, 0, none⟩ = some (.int .i64 b) := HS1.out.cell 0
  have y1 : w1.cell? ⟨g, 1, none⟩ = some (.slice a l.length cap) := HS1.out.cell 1
  go_wp2_with (fail)
  with_reducible refine KF.out.mono ?_
  rintro e w2 ⟨fb, rfl, hb2, hf⟩
  have HB2 := Lib.hid (HB1.out.trans (hb2.mono hgW))
  have HS2 := Lib.hid (HS1.out.below hb2 HS1.out.lt)
  have HK2 := Lib.hid (HK1.out.below hb2 HK1.out.lt)
  have HT2 := Lib.hid (HT1.out.below (Nat.le_refl _) hb2)
  have HTB2 := Lib.hid (HTB1.out.below hb2)
  have HF := Lib.hid hf
  have hgW : g ≤ w2.heap.size := Nat.le_of_lt HS2.out.lt
  clear hb2 hf KF HS1 HK1 HT1 HTB1 HB1 y0 y1
  have KA := Lib.hid (awake w2 HTB2.out)
  cases fb with
  | false =>
    go_wp2_with (fail)
    with_reducible refine KA.out.mono ?_
    rintro e w3 ⟨rfl, hb3⟩
    have HB3 := Lib.hid (HB2.out.trans (hb3.mono hgW))
    clear hb3
    go_wp2
    go_ret
    refine ⟨rfl, ?_⟩
    have := HB3.out
    rw [HG.out] at this
    exact this
  | true =>
    have z0 : w2.cell? ⟨g + 1, 0, none⟩ = some (.string t.name) := HK2.out.cell 0
    by_cases h100 : 100 < t.name.size
    · have t1 : decide ((100 : Int) < (t.name.size : Int)) = true := by simp; omega
      have t1' : decide (100 < t.name.size) = true := by simp; omega
      go_wp2_with (fail)
      with_reducible refine KA.out.mono ?_
      rintro e w3 ⟨rfl, hb3⟩
      have HB3 := Lib.hid (HB2.out.trans (hb3.mono hgW))
      clear hb3
      go_wp2
      go_ret
      refine ⟨rfl, ?_⟩
      have := HB3.out
      rw [HG.out] at this
      exact this
    · have t1 : decide ((100 : Int) < (t.name.size : Int)) = false := by simp; omega
      have t1' : decide (100 < t.name.size) = false := by simp; omega
      have HR := Lib.hid (show Room t from ⟨by omega, HI.out.T, HI.out.D, HI.out.C, HI.out.A, HI.out.Seg, HI.out.Cost, HI.out.M, HI.out.K, HI.out.Prio⟩)
      have y0 : w2.cell? ⟨g, 0, none⟩ = some (.int .i64 b) := HS2.out.cell 0
      have y1 : w2.cell? ⟨g, 1, none⟩ = some (.slice a l.length cap) := HS2.out.cell 1
      have KP := Lib.hid (set_ b l a cap HM.out HT2.out HTB2.out)
      have KR := Lib.hid (fun (W : World) (h : Tasks W a cap l) => refRight b l a cap HM.out h)
      have KS := Lib.hid (fun (W : World) (hw : (whyF b l).1 = 0) (h : Tasks W a cap l) => refSet b l a cap hw h)
      clear KA
      go_wp2_with (fail)
      with_reducible refine KP.out.mono ?_
      rintro e w3 ⟨rfl, hb3⟩
      have HB3 := Lib.hid (HB2.out.trans (hb3.mono hgW))
      have HS3 := Lib.hid (HS2.out.below hb3 HS2.out.lt)
      have HK3 := Lib.hid (HK2.out.below hb3 HK2.out.lt)
      have HT3 := Lib.hid (HT2.out.below (Nat.le_refl _) hb3)
      have HTB3 := Lib.hid (HTB2.out.below hb3)
      have hgW : g ≤ w3.heap.size := Nat.le_of_lt HS3.out.lt
      clear hb3 KP HS2 HK2 HT2 HTB2 HB2 y0 y1 z0
      have k0 := cell_regrown (HK3.out.cell 0)
      have k1 := cell_regrown (HK3.out.cell 1)
      have k2 := cell_regrown (HK3.out.cell 2)
      have k3 := cell_regrown (HK3.out.cell 3)
      have k4 := cell_regrown (HK3.out.cell 4)
      have k5 := cell_regrown (HK3.out.cell 5)
      have k6 := cell_regrown (HK3.out.cell 6)
      have k7 := cell_regrown (HK3.out.cell 7)
      have k8 := cell_regrown (HK3.out.cell 8)
      have k9 := cell_regrown (HK3.out.cell 9)
      have k10 := cell_regrown (HK3.out.cell 10)
      have c1 := fun d os => Calls.regrown_of (w := w3) (d := d) (os := os) (v := .string ⟨(lineW t).toArray⟩) (task_ t _ HR.out (HTB3.out.below (below_regrown w3 d os)))
      have c2 := fun d os => Calls.regrown_of (w := w3) (d := d) (os := os) (v := .string ⟨(lineW t).toArray⟩) (refTask t _ HR.out)
      have c3 := fun d os => Calls.regrown_of (w := w3) (d := d) (os := os) (v := .string ⟨(modeW m).toArray⟩) ((mode_ m _).mono fun e w' ⟨he, hw⟩ => ⟨he, by rw [hw]; exact Below.refl _ _⟩)
      have c4 := fun d os => Calls.regrown_of (w := w3) (d := d) (os := os) (v := .string ⟨(modeW m).toArray⟩) (refMode m _)
      simp only [aggK] at c1 c2
      generalize lineW t = L at c1 c2
      generalize modeW m = M at c3 c4
      go_upto_region 4 with fail
      refine wp_region_quiet_below (by kernel_rfl) (by kernel_rfl) ?_
      repeat (go_big_quiet_step (with_reducible first | exact c1 _ _ | exact c2 _ _ | exact c3 _ _ | exact c4 _ _))
      refine wpQuiet_nil ?_
      intro U hw'
      obtain ⟨⟨dq, osq⟩, hw''⟩ := hw'
      have hb4 : Below w3.heap.size w3 U := by rw [hw'']; exact below_regrown w3 dq osq
      have HB4 := Lib.hid (HB3.out.trans (hb4.mono hgW))
      have HS4 := Lib.hid (HS3.out.below hb4 HS3.out.lt)
      have HT4 := Lib.hid (HT3.out.below (Nat.le_refl _) hb4)
      have hgU : g ≤ U.heap.size := Nat.le_of_lt HS4.out.lt
      clear hw'' hb4 k0 k1 k2 k3 k4 k5 k6 k7 k8 k9 k10 c1 c2 c3 c4 HK3 HS3 HT3 HB3 HTB3
      have y0 : U.cell? ⟨g, 0, none⟩ = some (.int .i64 b) := HS4.out.cell 0
      have y1 : U.cell? ⟨g, 1, none⟩ = some (.slice a l.length cap) := HS4.out.cell 1
      have K5 := Lib.hid (KR.out U HT4.out)
      cases hR : ((whyF b l).1 == 0) with
      | false =>
        rw [hR] at K5
        rw [show printA b l = ([], 1) from if_neg (by simpa using hR)]
        simp only
        clear hR KR KS
        go_wp2_with (fail)
        with_reducible refine K5.out.mono ?_
        rintro e w5 ⟨rfl, hb5⟩
        have HB5 := Lib.hid (HB4.out.trans (hb5.mono hgU))
        clear hb5
        go_wp2
        go_ret
        refine ⟨rfl, ?_⟩
        have := HB5.out
        rw [HG.out] at this
        exact this
      | true =>
        rw [hR] at K5
        have hw : (whyF b l).1 = 0 := by simpa using hR
        rw [show printA b l = (textW b l, 0) from if_pos hw]
        simp only
        have KS2 := Lib.hid (fun (W : World) (h : Tasks W a cap l) => KS.out W hw h)
        clear hR KR KS hw
        generalize textW b l = X at KS2 ⊢
        go_wp2_with (fail)
        with_reducible refine K5.out.mono ?_
        rintro e w5 ⟨rfl, hb5⟩
        have HB5 := Lib.hid (HB4.out.trans (hb5.mono hgU))
        have HS5 := Lib.hid (HS4.out.below hb5 HS4.out.lt)
        have hg5 : g ≤ w5.heap.size := Nat.le_of_lt HS5.out.lt
        have K6 := Lib.hid (KS2.out w5 (HT4.out.below (Nat.le_refl _) hb5))
        clear hb5 K5 KS2 y0 y1
        have y0 : w5.cell? ⟨g, 0, none⟩ = some (.int .i64 b) := HS5.out.cell 0
        have y1 : w5.cell? ⟨g, 1, none⟩ = some (.slice a l.length cap) := HS5.out.cell 1
        go_wp2_with (fail)
        with_reducible refine K6.out.mono ?_
        rintro e w6 ⟨rfl, hb6⟩
        have HB6 := Lib.hid (HB5.out.trans (hb6.mono hg5))
        clear hb6
        go_wp2
        go_ret
        refine ⟨rfl, ?_⟩
        have := HB6.out
        rw [HG.out] at this
        exact this
end Go.Proofs.YtbijgmaeechmoaaDoor
