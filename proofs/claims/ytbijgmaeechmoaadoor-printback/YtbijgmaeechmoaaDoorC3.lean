/- The walk of the statement on sets that are printed and read again. -/
import Derived.Test.YtbijgmaeechmoaaDoorC2
import Derived.Test.YtbijgmaeechmoaaDoorSm
namespace Go.Proofs.YtbijgmaeechmoaaDoor
open Go.RowKit Kx Lx
set_option maxRecDepth 100000

set_option maxHeartbeats 16000000 in
theorem coreBack (b : Int) (l : List Tk) (a : Option Addr) (cap : Nat) (b' : Int) (l' : List Tk) (a' : Option Addr) (cap' : Nat) {w : World} (hm : l.length ≤ maxLen) (ht : Tasks w a cap l) (hm' : l'.length ≤ maxLen) (ht' : Tasks w a' cap' l') (hT : Tab w) :
    Calls Tryd.prog 4 #[.agg #[.int .i64 b, .slice a l.length cap], .agg #[.int .i64 b', .slice a' l'.length cap']] w (Woke w) := by
  obtain ⟨g, hg⟩ : ∃ g, g = w.heap.size := ⟨_, rfl⟩
  have HG := Lib.hid hg
  obtain ⟨V, hV⟩ : ∃ V, V = (w.alloc (.cells #[.int .i64 b, .slice a l.length cap] 24)).alloc (.cells #[.int .i64 b', .slice a' l'.length cap'] 24) := ⟨_, rfl⟩
  have HV := Lib.hid hV
  have HB0 := Lib.hid (show Below g w V by rw [hV, hg]; exact (below_new _ _).alloc (by simp) _)
  have HS0 := Lib.hid (show Lies V g 24 #[.int .i64 b, .slice a l.length cap] by rw [hV, hg]; exact (Lies.made _ _ _).alloc _)
  have HK0 := Lib.hid (show Lies V (g + 1) 24 #[.int .i64 b', .slice a' l'.length cap'] by
    rw [hV, hg]
    have := Lies.made (w.alloc (.cells #[.int .i64 b, .slice a l.length cap] 24)) 24 #[.int .i64 b', .slice a' l'.length cap']
    simpa using this)
  have HT := Lib.hid (show Tasks V a cap l from ht.below (B := g) (by omega) HB0.out)
  have HU := Lib.hid (show Tasks V a' cap' l' from ht'.below (B := g) (by omega) HB0.out)
  have HTB := Lib.hid (hT.below (w' := V) (by rw [← hg]; exact HB0.out))
  have hgV : g ≤ V.heap.size := Nat.le_of_lt HS0.out.lt
  have HM := Lib.hid hm
  have HM' := Lib.hid hm'
  have KA := Lib.hid (awake V HTB.out)
  clear hg hV hm hm' ht ht' hT
  go_enter Tryd.func4, Tryd.ntmps4
  go_upto_region 1 with fail
  rw [← HV.out]
  try rw [← HG.out]
  go_wp2_with (fail)
  with_reducible refine KA.out.mono ?_
  rintro e w1 ⟨rfl, hb1⟩
  have HB1 := Lib.hid (HB0.out.trans (hb1.mono hgV))
  have HS1 := Lib.hid (HS0.out.below hb1 HS0.out.lt)
  have HK1 := Lib.hid (HK0.out.below hb1 HK0.out.lt)
  have HT1 := Lib.hid (HT.out.below (Nat.le_refl _) hb1)
  have HU1 := Lib.hid (HU.out.below (Nat.le_refl _) hb1)
  have HTB1 := Lib.hid (HTB.out.below hb1)
  have hgW : g ≤ w1.heap.size := Nat.le_of_lt HS1.out.lt
  clear hb1 KA HS0 HK0 HT HU HTB HB0 hgV
  have KF := Lib.hid (few b l a cap HM.out HT1.out)
  have y0 : w1.cell? ⟨g, 0, none⟩ = some (.int .i64 b) := HS1.out.cell 0
  have y1 : w1.cell? ⟨g, 1, none⟩ = some (.slice a l.length cap) := HS1.out.cell 1
  go_wp2_with (fail)
  with_reducible refine KF.out.mono ?_
  rintro e w2 ⟨fb, rfl, hb2, hf⟩
  have HB2 := Lib.hid (HB1.out.trans (hb2.mono hgW))
  have HS2 := Lib.hid (HS1.out.below hb2 HS1.out.lt)
  have HK2 := Lib.hid (HK1.out.below hb2 HK1.out.lt)
  have HT2 := Lib.hid (HT1.out.below (Nat.le_refl _) hb2)
  have HU2 := Lib.hid (HU1.out.below (Nat.le_refl _) hb2)
  have HTB2 := Lib.hid (HTB1.out.below hb2)
  have HF := Lib.hid hf
  have hgW : g ≤ w2.heap.size := Nat.le_of_lt HS2.out.lt
  clear hb2 hf KF HS1 HK1 HT1 HU1 HTB1 HB1 y0 y1
  cases fb with
  | false =>
    have KA := Lib.hid (awake w2 HTB2.out)
    go_wp2_with (fail)
    with_reducible refine KA.out.mono ?_
    rintro e w3 ⟨rfl, hb3⟩
    have HB3 := Lib.hid (HB2.out.trans (hb3.mono hgW))
    clear hb3
    go_wp2
    go_ret
    refine ⟨rfl, ?_⟩
    have := HB3.out
    rw [HG.out] at this
    exact this
  | true =>
    have z0 : w2.cell? ⟨g + 1, 0, none⟩ = some (.int .i64 b') := HK2.out.cell 0
    have z1 : w2.cell? ⟨g + 1, 1, none⟩ = some (.slice a' l'.length cap') := HK2.out.cell 1
    have KF := Lib.hid (few b' l' a' cap' HM'.out HU2.out)
    go_wp2_with (fail)
    with_reducible refine KF.out.mono ?_
    rintro e w3 ⟨fb', rfl, hb3, hf'⟩
    have HB3 := Lib.hid (HB2.out.trans (hb3.mono hgW))
    have HS3 := Lib.hid (HS2.out.below hb3 HS2.out.lt)
    have HK3 := Lib.hid (HK2.out.below hb3 HK2.out.lt)
    have HT3 := Lib.hid (HT2.out.below (Nat.le_refl _) hb3)
    have HU3 := Lib.hid (HU2.out.below (Nat.le_refl _) hb3)
    have HTB3 := Lib.hid (HTB2.out.below hb3)
    have HF' := Lib.hid hf'
    have hgW : g ≤ w3.heap.size := Nat.le_of_lt HS3.out.lt
    clear hb3 hf' KF HS2 HK2 HT2 HU2 HTB2 HB2 z0 z1
    cases fb' with
    | false =>
      have KA := Lib.hid (awake w3 HTB3.out)
      go_wp2_with (fail)
      with_reducible refine KA.out.mono ?_
      rintro e w4 ⟨rfl, hb4⟩
      have HB4 := Lib.hid (HB3.out.trans (hb4.mono hgW))
      clear hb4
      go_wp2
      go_ret
      refine ⟨rfl, ?_⟩
      have := HB4.out
      rw [HG.out] at this
      exact this
    | true =>
      have h30 : l.length ≤ 30 := (HF.out (by trivial)).1
      have h30' : l'.length ≤ 30 := (HF'.out (by trivial)).1
      have y0 : w3.cell? ⟨g, 0, none⟩ = some (.int .i64 b) := HS3.out.cell 0
      have y1 : w3.cell? ⟨g, 1, none⟩ = some (.slice a l.length cap) := HS3.out.cell 1
      have K1 := Lib.hid (set_ b l a cap HM.out HT3.out HTB3.out)
      go_wp2_with (fail)
      with_reducible refine K1.out.mono ?_
      rintro e w4 ⟨rfl, hb4⟩
      have HB4 := Lib.hid (HB3.out.trans (hb4.mono hgW))
      have HS4 := Lib.hid (HS3.out.below hb4 HS3.out.lt)
      have HK4 := Lib.hid (HK3.out.below hb4 HK3.out.lt)
      have HT4 := Lib.hid (HT3.out.below (Nat.le_refl _) hb4)
      have HU4 := Lib.hid (HU3.out.below (Nat.le_refl _) hb4)
      have HTB4 := Lib.hid (HTB3.out.below hb4)
      have hgW : g ≤ w4.heap.size := Nat.le_of_lt HS4.out.lt
      clear hb4 K1 HS3 HK3 HT3 HU3 HTB3 HB3 y0 y1
      have z0 : w4.cell? ⟨g + 1, 0, none⟩ = some (.int .i64 b') := HK4.out.cell 0
      have z1 : w4.cell? ⟨g + 1, 1, none⟩ = some (.slice a' l'.length cap') := HK4.out.cell 1
      have K2 := Lib.hid (set_ b' l' a' cap' HM'.out HU4.out HTB4.out)
      go_wp2_with (fail)
      with_reducible refine K2.out.mono ?_
      rintro e w5 ⟨rfl, hb5⟩
      have HB5 := Lib.hid (HB4.out.trans (hb5.mono hgW))
      have HS5 := Lib.hid (HS4.out.below hb5 HS4.out.lt)
      have HK5 := Lib.hid (HK4.out.below hb5 HK4.out.lt)
      have HT5 := Lib.hid (HT4.out.below (Nat.le_refl _) hb5)
      have HU5 := Lib.hid (HU4.out.below (Nat.le_refl _) hb5)
      have HTB5 := Lib.hid (HTB4.out.below hb5)
      have hgW : g ≤ w5.heap.size := Nat.le_of_lt HS5.out.lt
      clear hb5 K2 HS4 HK4 HT4 HU4 HTB4 HB4 z0 z1
      cases hR : ((whyF b l).1 == 0) with
      | false =>
        have K3 := Lib.hid (refRight b l a cap HM.out HT5.out)
        rw [hR] at K3
        rw [show printA b l = ([], 1) from if_neg (by simpa using hR)]
        simp only
        clear hR
        generalize printA b' l' = P'
        have y0 : w5.cell? ⟨g, 0, none⟩ = some (.int .i64 b) := HS5.out.cell 0
        have y1 : w5.cell? ⟨g, 1, none⟩ = some (.slice a l.length cap) := HS5.out.cell 1
        go_wp2_with (fail)
        with_reducible refine K3.out.mono ?_
        rintro e w6 ⟨rfl, hb6⟩
        have HB6 := Lib.hid (HB5.out.trans (hb6.mono hgW))
        clear hb6
        go_wp2
        go_ret
        refine ⟨rfl, ?_⟩
        have := HB6.out
        rw [HG.out] at this
        exact this
      | true =>
        have hw : (whyF b l).1 = 0 := by simpa using hR
        have HW := Lib.hid hw
        have HPA := Lib.hid (show printA b l = (textW b l, 0) from if_pos hw)
        rw [HPA.out]
        have HBK := Lib.hid (back hw)
        have HX := Lib.hid (textW_len hw)
        simp only
        clear hR hw
        obtain ⟨X, hX⟩ : ∃ X, X = textW b l := ⟨_, rfl⟩
        rw [← hX] at HBK HX HPA ⊢
        have HXE := Lib.hid hX
        clear hX
        obtain ⟨⟨Y', E'⟩, hP'⟩ : ∃ P', P' = printA b' l' := ⟨_, rfl⟩
        rw [← hP']
        have HP' := Lib.hid hP'
        clear hP'
        simp only
        obtain ⟨W6, c6, hC, hby, hb6⟩ := conv_text w5 X
        have HB6 := Lib.hid (HB5.out.trans (hb6.mono hgW))
        have HS6 := Lib.hid (HS5.out.below hb6 HS5.out.lt)
        have HK6 := Lib.hid (HK5.out.below hb6 HK5.out.lt)
        have HT6 := Lib.hid (HT5.out.below (Nat.le_refl _) hb6)
        have HU6 := Lib.hid (HU5.out.below (Nat.le_refl _) hb6)
        have HTB6 := Lib.hid (HTB5.out.below hb6)
        have hgW : g ≤ W6.heap.size := Nat.le_of_lt HS6.out.lt
        have K3 := Lib.hid (set' HBK.out (by have := HX.out; omega) rfl hby)
        clear hby hb6 HS5 HK5 HT5 HU5 HTB5 HB5
        go_wp2_with (fail)
        with_reducible refine K3.out.mono ?_
        rintro e w7 ⟨A2, c2, rfl, hta, _, hb7⟩
        have HB7 := Lib.hid (HB6.out.trans (hb7.mono hgW))
        have HS7 := Lib.hid (HS6.out.below hb7 HS6.out.lt)
        have HK7 := Lib.hid (HK6.out.below hb7 HK6.out.lt)
        have HT7 := Lib.hid (HT6.out.below (Nat.le_refl _) hb7)
        have HU7 := Lib.hid (HU6.out.below (Nat.le_refl _) hb7)
        have HTB7 := Lib.hid (HTB6.out.below hb7)
        have HR7 := Lib.hid hta
        have hgW : g ≤ w7.heap.size := Nat.le_of_lt HS7.out.lt
        clear hta hb7 K3 hC HS6 HK6 HT6 HU6 HTB6 HB6
        obtain ⟨q, hq⟩ : ∃ q, q = w7.heap.size := ⟨_, rfl⟩
        have HQ := Lib.hid hq
        obtain ⟨Y, hY⟩ : ∃ Y, Y = (w7.alloc (.cells #[.int .i64 b, .slice A2 l.length c2] 24)).alloc (.cells #[.int .i64 0, .int .i64 0, .int .i64 0] 37) := ⟨_, rfl⟩
        have HY := Lib.hid hY
        have hbY : Below w7.heap.size w7 Y := by rw [hY]; exact (below_new _ _).alloc (by simp) _
        have HB8 := Lib.hid (HB7.out.trans (hbY.mono hgW))
        have HS8 := Lib.hid (HS7.out.below hbY HS7.out.lt)
        have HK8 := Lib.hid (HK7.out.below hbY HK7.out.lt)
        have HT8 := Lib.hid (HT7.out.below (Nat.le_refl _) hbY)
        have HU8 := Lib.hid (HU7.out.below (Nat.le_refl _) hbY)
        have HTB8 := Lib.hid (HTB7.out.below hbY)
        have HR8 := Lib.hid (HR7.out.below (Nat.le_refl _) hbY)
        have HN8 := Lib.hid (show Lies Y q 24 #[.int .i64 b, .slice A2 l.length c2] by rw [hY, hq]; exact (Lies.made _ _ _).alloc _)
        have HE8 := Lib.hid (show Lies Y (q + 1) 37 #[.int .i64 0, .int .i64 0, .int .i64 0] by
          rw [hY, hq]
          have := Lies.made (w7.alloc (.cells #[.int .i64 b, .slice A2 l.length c2] 24)) 37 #[.int .i64 0, .int .i64 0, .int .i64 0]
          simpa using this)
        have hgW : g ≤ Y.heap.size := Nat.le_of_lt HS8.out.lt
        have k4 := set_ b l A2 c2 HM.out HR8.out HTB8.out
        rw [HPA.out] at k4
        have K4 := Lib.hid k4
        simp only at K4
        clear hY hbY hq k4 HS7 HK7 HT7 HU7 HTB7 HB7 HR7
        have x0 : Y.cell? ⟨q, 0, none⟩ = some (.int .i64 b) := HN8.out.cell 0
        have x1 : Y.cell? ⟨q, 1, none⟩ = some (.slice A2 l.length c2) := HN8.out.cell 1
        go_upto_region 8 with fail
        try rw [Int.natCast_zero]
        rw [← HY.out]
        try rw [← HQ.out]
        go_wp2_with (fail)
        with_reducible refine K4.out.mono ?_
        rintro e w9 ⟨rfl, hb9⟩
        have HB9 := Lib.hid (HB8.out.trans (hb9.mono hgW))
        have HS9 := Lib.hid (HS8.out.below hb9 HS8.out.lt)
        have HK9 := Lib.hid (HK8.out.below hb9 HK8.out.lt)
        have HN9 := Lib.hid (HN8.out.below hb9 HN8.out.lt)
        have HE9 := Lib.hid (HE8.out.below hb9 HE8.out.lt)
        have HT9 := Lib.hid (HT8.out.below (Nat.le_refl _) hb9)
        have HU9 := Lib.hid (HU8.out.below (Nat.le_refl _) hb9)
        have HR9 := Lib.hid (HR8.out.below (Nat.le_refl _) hb9)
        have hgW : g ≤ w9.heap.size := Nat.le_of_lt HS9.out.lt
        clear hb9 K4 HS8 HK8 HT8 HU8 HTB8 HB8 HR8 HN8 HE8 x0 x1
        have x0 : w9.cell? ⟨q, 0, none⟩ = some (.int .i64 b) := HN9.out.cell 0
        have x1 : w9.cell? ⟨q, 1, none⟩ = some (.slice A2 l.length c2) := HN9.out.cell 1
        have y0 : w9.cell? ⟨g, 0, none⟩ = some (.int .i64 b) := HS9.out.cell 0
        have y1 : w9.cell? ⟨g, 1, none⟩ = some (.slice a l.length cap) := HS9.out.cell 1
        have e0 : w9.cell? ⟨q + 1, 0, none⟩ = some (.int .i64 0) := HE9.out.cell 0
        have K5 := Lib.hid (same b l A2 a c2 cap (by omega) HR9.out HT9.out)
        go_wp2_with (fail)
        with_reducible refine K5.out.mono ?_
        rintro e w10 ⟨rfl, hb10⟩
        have HB10 := Lib.hid (HB9.out.trans (hb10.mono hgW))
        have HS10 := Lib.hid (HS9.out.below hb10 HS9.out.lt)
        have HK10 := Lib.hid (HK9.out.below hb10 HK9.out.lt)
        have HT10 := Lib.hid (HT9.out.below (Nat.le_refl _) hb10)
        have HU10 := Lib.hid (HU9.out.below (Nat.le_refl _) hb10)
        have hgW : g ≤ w10.heap.size := Nat.le_of_lt HS10.out.lt
        clear hb10 K5 HS9 HK9 HT9 HU9 HB9 HR9 HN9 HE9 x0 x1 y0 y1 e0
        have y0 : w10.cell? ⟨g, 0, none⟩ = some (.int .i64 b) := HS10.out.cell 0
        have y1 : w10.cell? ⟨g, 1, none⟩ = some (.slice a l.length cap) := HS10.out.cell 1
        have z0 : w10.cell? ⟨g + 1, 0, none⟩ = some (.int .i64 b') := HK10.out.cell 0
        have z1 : w10.cell? ⟨g + 1, 1, none⟩ = some (.slice a' l'.length cap') := HK10.out.cell 1
        have K6 := Lib.hid (sameAny b b' l l' a a' cap cap' (by omega) (by omega) HT10.out HU10.out)
        by_cases hw' : (whyF b' l').1 = 0
        · have h1 := HP'.out
          rw [show printA b' l' = (textW b' l', 0) from if_pos hw'] at h1
          obtain ⟨h2, h3⟩ := Prod.mk.inj h1
          subst h3
          clear h1 HP'
          by_cases hEq : b = b' ∧ l = l'
          · have hXY : Y' = X := by rw [h2, HXE.out, hEq.1, hEq.2]
            subst hXY
            have HEQ := Lib.hid hEq
            clear hEq h2 hw' HXE
            go_wp2_with (fail)
            with_reducible refine K6.out.mono ?_
            rintro e w11 ⟨r, rfl, hr, hb11⟩
            have HB11 := Lib.hid (HB10.out.trans (hb11.mono hgW))
            obtain rfl : r = true := hr.2 HEQ.out
            clear hb11 hr
            go_wp2
            go_ret
            refine ⟨rfl, ?_⟩
            have := HB11.out
            rw [HG.out] at this
            exact this
          · have hXY : X ≠ Y' := fun e => hEq (textW_inj HW.out hw' (by rw [← HXE.out, e, h2]))
            have q1 : (X == Y') = false := by simpa using hXY
            have HEQ := Lib.hid hEq
            clear hEq h2 hw' HXE
            go_wp2_with (fail)
            with_reducible refine K6.out.mono ?_
            rintro e w11 ⟨r, rfl, hr, hb11⟩
            have HB11 := Lib.hid (HB10.out.trans (hb11.mono hgW))
            obtain rfl : r = false := by
              cases r with
              | false => rfl
              | true => exact absurd (hr.1 rfl) HEQ.out
            clear hb11 hr
            go_wp2
            go_ret
            refine ⟨rfl, ?_⟩
            have := HB11.out
            rw [HG.out] at this
            exact this
        · have h1 := HP'.out
          rw [show printA b' l' = ([], 1) from if_neg hw'] at h1
          obtain ⟨h2, h3⟩ := Prod.mk.inj h1
          subst h2 h3
          clear h1 HP' hw' K6
          go_wp2
          go_ret
          refine ⟨rfl, ?_⟩
          have := HB10.out
          rw [HG.out] at this
          exact this
end Go.Proofs.YtbijgmaeechmoaaDoor
