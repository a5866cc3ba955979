/- The walk of the statement on a set's order. -/
import Derived.Test.YtkldpbehjbecnaaC1
import Derived.Lib.QuietBelow
namespace Go.Proofs.Ytkldpbehjbecnaa
open Go.RowKit

theorem bPrio_no {e : List Tk} {t : Tk} (h : bPrio e t = false) : (0 ≤ t.Prio ∧ t.Prio ≤ 255) ∧ ∀ x ∈ e, x.Prio ≠ t.Prio := by
  unfold bPrio prioIn hasPrio at h
  simp only [Bool.or_eq_false_iff, Bool.not_eq_false', Bool.and_eq_true, decide_eq_true_eq] at h
  refine ⟨h.1, fun x hx he => ?_⟩
  have := List.any_eq_false.1 h.2 x hx
  simp [he] at this
/-- Of a right set no two tasks have one priority. -/
theorem prio_inj {b : Int} {l : List Tk} (h : (whyF b l).1 = 0) {i j : Nat} {t u : Tk} (hi : l[i]? = some t) (hj : l[j]? = some u) (hne : i ≠ j) : t.Prio ≠ u.Prio := by
  have H := ((right_iff b l).1 h).2.2
  have key : ∀ {i j : Nat} {t u : Tk}, l[i]? = some t → l[j]? = some u → i < j → t.Prio ≠ u.Prio := by
    intro i j t u hi hj hij
    have := (bPrio_no (bad1_zero (H j u hj)).2.2.2.2).2
    refine this t (List.mem_of_getElem? (i := i) ?_)
    rw [List.getElem?_take, if_pos hij]; exact hi
  rcases Nat.lt_trichotomy i j with hlt | he | hlt
  · exact key hi hj hlt
  · exact absurd he hne
  · exact fun e => key hj hi hlt e.symm
/-- Priorities of places in order rise. -/
theorem order_lt {b : Int} {l : List Tk} {o : Nat → Nat} (h : (whyF b l).1 = 0) (hp : Places l.length o) (ho : Order (keyP l) o l.length) {i p : Nat} (hi : i < l.length) (hpi : p < i) {t u : Tk} (ht : l[o p]? = some t) (hu : l[o i]? = some u) : t.Prio < u.Prio := by
  have h1 := ho p i hpi hi
  rw [keyP_at ht, keyP_at hu] at h1
  have h2 := prio_inj h ht hu (fun e => by have := hp.2 p i (by omega) hi e; omega)
  omega
def OrdRel (n : Nat) (w : World) (i : Value) (W : World) : Prop := ∃ k : Nat, k ≤ n ∧ i = .int .i64 (k : Int) ∧ Below w.heap.size w W

set_option maxRecDepth 100000 in
set_option maxHeartbeats 4000000 in
theorem coreOrder (b : Int) (l : List Tk) (a : Option Addr) (cap : Nat) {w : World} (hm : l.length ≤ maxLen) (ht : Tasks w a cap l) :
    Calls Try.prog 4 #[.agg #[.int .i64 b, .slice a l.length cap]] w (Woke w) := by
  have HT := Lib.hid ht
  have HM := Lib.hid hm
  have HB0 := Lib.hid (below_new w (.cells #[.int .i64 b, .slice a l.length cap] 24))
  have HX0 := Lib.hid (Lies.made w 24 #[.int .i64 b, .slice a l.length cap])
  clear ht hm
  go_enter Try.func4, Try.ntmps4
  go_wp2_with (fail)
  refine (awake _).mono ?_
  rintro e w1 ⟨rfl, hb1⟩
  have HB1 := Lib.hid (HB0.out.trans (hb1.mono HB0.out.size))
  have HX1 := Lib.hid (HX0.out.below hb1 HX0.out.lt)
  clear hb1
  have y0 : w1.cell? ⟨w.heap.size, 0, none⟩ = some (.int .i64 b) := HX1.out.cell 0
  have y1 : w1.cell? ⟨w.heap.size, 1, none⟩ = some (.slice a l.length cap) := HX1.out.cell 1
  have KF := Lib.hid (few b l a cap HM.out (HT.out.below (Nat.le_refl _) HB1.out))
  go_wp2_with (fail)
  with_reducible refine KF.out.mono ?_
  rintro e w2 ⟨fb, rfl, hb2, hf⟩
  have HB2 := Lib.hid (HB1.out.trans (hb2.mono HB1.out.size))
  have HX2 := Lib.hid (HX1.out.below hb2 HX1.out.lt)
  have HF := Lib.hid hf
  clear hb2 hf y0 y1 HB0 HX0 HB1 HX1 KF
  cases fb with
  | false =>
    go_wp2_with (fail)
    refine (awake _).mono ?_
    rintro e w3 ⟨rfl, hb3⟩
    have HB3 := Lib.hid (HB2.out.trans (hb3.mono HB2.out.size))
    clear hb3
    go_wp2
    go_ret
    exact ⟨rfl, HB3.out⟩
  | true =>
    have y0 : w2.cell? ⟨w.heap.size, 0, none⟩ = some (.int .i64 b) := HX2.out.cell 0
    have y1 : w2.cell? ⟨w.heap.size, 1, none⟩ = some (.slice a l.length cap) := HX2.out.cell 1
    cases hR : ((whyF b l).1 == 0) with
    | false =>
      have K1 := Lib.hid (refRight b l a cap HM.out (HT.out.below (Nat.le_refl _) HB2.out))
      rw [hR] at K1
      clear hR
      go_wp2_with (fail)
      with_reducible refine K1.out.mono ?_
      rintro e w3 ⟨rfl, hb3⟩
      have HB3 := Lib.hid (HB2.out.trans (hb3.mono HB2.out.size))
      clear hb3 y0 y1 K1 HB2 HX2
      go_wp2_with (fail)
      refine (awake _).mono ?_
      rintro e w4 ⟨rfl, hb4⟩
      have HB4 := Lib.hid (HB3.out.trans (hb4.mono HB3.out.size))
      clear hb4
      go_wp2
      go_ret
      exact ⟨rfl, HB4.out⟩
    | true =>
      have K1 := Lib.hid (refRight b l a cap HM.out (HT.out.below (Nat.le_refl _) HB2.out))
      rw [hR] at K1
      have HRT := Lib.hid (show (whyF b l).1 = 0 by simpa using hR)
      have hn : 1 ≤ l.length ∧ l.length ≤ 16 := ((right_iff b l).1 HRT.out).2.1
      obtain ⟨hn1, hn2⟩ := hn
      clear hR
      go_wp2_with (fail)
      with_reducible refine K1.out.mono ?_
      rintro e w3 ⟨rfl, hb3⟩
      have HB3 := Lib.hid (HB2.out.trans (hb3.mono HB2.out.size))
      have HX3 := Lib.hid (HX2.out.below hb3 HX2.out.lt)
      clear hb3 y0 y1 K1 HB2 HX2
      have y0 : w3.cell? ⟨w.heap.size, 0, none⟩ = some (.int .i64 b) := HX3.out.cell 0
      have y1 : w3.cell? ⟨w.heap.size, 1, none⟩ = some (.slice a l.length cap) := HX3.out.cell 1
      have K2 := Lib.hid (order b l a cap hn1 hn2 (HT.out.below (Nat.le_refl _) HB3.out))
      go_wp2_with (fail)
      with_reducible refine K2.out.mono ?_
      rintro e w4 ⟨g, o, rfl, hb4, hge, hI, hP, hO⟩
      have HB4 := Lib.hid (HB3.out.trans (hb4.mono HB3.out.size))
      have HX4 := Lib.hid (HX3.out.below hb4 HX3.out.lt)
      have HI := Lib.hid hI
      have HP := Lib.hid hP
      have HO := Lib.hid hO
      clear hb4 y0 y1 K2 HB3 HX3 hI hP hO
      have y1 : w4.cell? ⟨w.heap.size, 1, none⟩ = some (.slice a l.length cap) := HX4.out.cell 1
      go_wp2
      go_loopw [4] (fun i W => OrdRel l.length w4 i W) (fun i _ => l.length - (intOf i).toNat)
      case atStart => exact ⟨0, Nat.zero_le _, rfl, Below.refl _ _⟩
      case round =>
        obtain ⟨i, hi, rfl, hbel⟩ := hrel
        have HB := Lib.hid hbel
        clear hbel y1
        by_cases hlt : i < l.length
        · have t1 : decide ((i : Int) < (l.length : Int)) = true := by simp; omega
          have HTW := Lib.hid (HT.out.below (Nat.le_refl _) (HB4.out.trans (HB.out.mono HB4.out.size)))
          have hx := List.getElem?_eq_getElem hlt
          have hxo := List.getElem?_eq_getElem (HP.out.1 i hlt)
          obtain ⟨bb, off, rfl, hbl, x0, x1, x2, x3, x4, x5, x6, x7, x8, x9, x10⟩ := HTW.out.cells hx
          obtain ⟨b2, off2, e2, _, _, _, _, _, _, _, _, _, _, _, v10⟩ := HTW.out.cells hxo
          cases e2
          have ci : wr.cell? ⟨g, i, none⟩ = some (.int .i64 (o i : Int)) := (HI.out.below HB.out HI.out.lt).cell hlt
          have y1 : wr.cell? ⟨w.heap.size, 1, none⟩ = some (.slice (some ⟨bb, off, none⟩) l.length cap) := (HX4.out.below HB.out HX4.out.lt).cell 1
          have hoi := HP.out.1 i hlt
          have HXO := Lib.hid hxo
          clear hx hxo
          generalize l[i] = t at x0 x1 x2 x3 x4 x5 x6 x7 x8 x9 x10
          generalize l[o i] = u at v10 HXO
          obtain ⟨x, hxx⟩ : ∃ x, x = o i := ⟨_, rfl⟩
          rw [← hxx] at ci v10 hoi
          have HXX := Lib.hid hxx
          clear hxx
          have KH := Lib.hid (fun W => hard t W)
          simp only [aggK] at KH
          obtain ⟨n, tT, tD, tC, tA, tS, tc, tM, tK, tO, tP⟩ := t
          simp only at x0 x1 x2 x3 x4 x5 x6 x7 x8 x9 x10 KH
          have q1 : (0 : Int) ≤ (i : Int) := by omega
          have q2 : (i : Int) < (l.length : Int) := by omega
          have q3 : (0 : Int) ≤ (x : Int) := by omega
          have q4 : (x : Int) < (l.length : Int) := by omega
          have e1 : decide ((x : Int) < 0) = false := by simp
          have e2 : decide ((l.length : Int) ≤ (x : Int)) = false := by simp; omega
          have e2' : decide (l.length ≤ x) = false := by simp; omega
          have hgl : g < wr.heap.size := (HI.out.below HB.out HI.out.lt).lt
          have hwl : w.heap.size < wr.heap.size := (HX4.out.below HB.out HX4.out.lt).lt
          by_cases hi0 : i = 0
          · have e3 : decide ((0 : Int) < (i : Int)) = false := by simp; omega
            have e3' : decide (0 < i) = false := by simp; omega
            generalize u.Prio = pu at v10
            clear HXO hi0
            have k_ci := cell_regrown ci
            have k_y1 := cell_regrown y1
            have k_x0 := cell_regrown x0
            have k_x1 := cell_regrown x1
            have k_x2 := cell_regrown x2
            have k_x3 := cell_regrown x3
            have k_x4 := cell_regrown x4
            have k_x5 := cell_regrown x5
            have k_x6 := cell_regrown x6
            have k_x7 := cell_regrown x7
            have k_x8 := cell_regrown x8
            have k_x9 := cell_regrown x9
            have k_x10 := cell_regrown x10
            have k_v10 := cell_regrown v10
            have cH := fun d os => Calls.regrown_of (w := wr) (d := d) (os := os) (v := .bool (tM == tK)) (KH.out _)
            clear KH
            go_wp2
            refine wp_region_quiet_below (by kernel_rfl) (by kernel_rfl) ?_
            repeat (go_big_quiet_step (exact cH _ _))
            refine wpQuiet_nil ?_
            intro _ hw'
            obtain ⟨⟨dq, osq⟩, hw''⟩ := hw'
            subst hw''
            go_wp2
            go_roundw
            case rel => exact ⟨i + 1, by omega, by go_num, HB.out.trans ((below_regrown wr dq osq).mono HB.out.size)⟩
            case measure => simp [intOf]; omega
          · have e3 : decide ((0 : Int) < (i : Int)) = true := by simp; omega
            have e3' : decide (0 < i) = true := by simp; omega
            have e3'' : 0 < i := by omega
            obtain ⟨p, hp⟩ : ∃ p, p = i - 1 := ⟨_, rfl⟩
            have hpl : p < l.length := by omega
            have hyo := List.getElem?_eq_getElem (HP.out.1 p hpl)
            obtain ⟨b3, off3, e4, _, _, _, _, _, _, _, _, _, _, _, z10⟩ := HTW.out.cells hyo
            cases e4
            have cp : wr.cell? ⟨g, p, none⟩ = some (.int .i64 (o p : Int)) := (HI.out.below HB.out HI.out.lt).cell hpl
            have hoz := HP.out.1 p hpl
            have HLT := Lib.hid (order_lt HRT.out HP.out HO.out hlt (by omega) hyo HXO.out)
            clear hyo
            generalize l[o p] = uz at z10 HLT
            obtain ⟨z, hzz⟩ : ∃ z, z = o p := ⟨_, rfl⟩
            rw [← hzz] at cp z10 hoz
            have e5 : decide (u.Prio ≤ uz.Prio) = false := by have := HLT.out; simp; omega
            generalize u.Prio = pu at v10 e5
            generalize uz.Prio = pz at z10 e5
            have hw : IntKind.i64.wrap ((i : Int) - 1) = (p : Int) := by rw [IntWalk.i64_in _ ⟨by omega, by omega⟩]; omega
            have q5 : (0 : Int) ≤ (p : Int) := by omega
            have q6 : (p : Int) < (l.length : Int) := by omega
            have q7 : (0 : Int) ≤ (z : Int) := by omega
            have q8 : (z : Int) < (l.length : Int) := by omega
            have HPP := Lib.hid hp
            have HZZ := Lib.hid hzz
            clear HXO HLT hi0 hp hzz
            have k_ci := cell_regrown ci
            have k_y1 := cell_regrown y1
            have k_x0 := cell_regrown x0
            have k_x1 := cell_regrown x1
            have k_x2 := cell_regrown x2
            have k_x3 := cell_regrown x3
            have k_x4 := cell_regrown x4
            have k_x5 := cell_regrown x5
            have k_x6 := cell_regrown x6
            have k_x7 := cell_regrown x7
            have k_x8 := cell_regrown x8
            have k_x9 := cell_regrown x9
            have k_x10 := cell_regrown x10
            have k_v10 := cell_regrown v10
            have k_cp := cell_regrown cp
            have k_z10 := cell_regrown z10
            have cH := fun d os => Calls.regrown_of (w := wr) (d := d) (os := os) (v := .bool (tM == tK)) (KH.out _)
            clear KH
            go_wp2
            refine wp_region_quiet_below (by kernel_rfl) (by kernel_rfl) ?_
            repeat (go_big_quiet_step (exact cH _ _))
            refine wpQuiet_nil ?_
            intro _ hw'
            obtain ⟨⟨dq, osq⟩, hw''⟩ := hw'
            subst hw''
            go_wp2
            go_roundw
            case rel => exact ⟨i + 1, by omega, by go_num, HB.out.trans ((below_regrown wr dq osq).mono HB.out.size)⟩
            case measure => simp [intOf]; omega
        · have t1 : decide ((i : Int) < (l.length : Int)) = false := by simp; omega
          have t1' : decide (i < l.length) = false := by simp; omega
          go_wp2
          go_ret
          exact ⟨rfl, HB4.out.trans (HB.out.mono HB4.out.size)⟩
end Go.Proofs.Ytkldpbehjbecnaa
