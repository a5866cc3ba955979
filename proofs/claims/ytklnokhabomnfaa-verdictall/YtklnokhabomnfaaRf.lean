/- The statements' own: the whole demand, the dearest failing part, what may be called ahead. -/
import Derived.Test.YtklnokhabomnfaaRc
namespace Go.Proofs.Ytklnokhabomnfaa
open Go.RowKit

/-- No priority is there twice. -/
def Dist (l : List Tk) : Prop := ∀ (i j : Nat) (t u : Tk), l[i]? = some t → l[j]? = some u → t.Prio = u.Prio → i = j
set_option maxHeartbeats 2000000 in
theorem refWhole {t : Tk} (h : Fine t) (w : World) : Calls Try.prog 47 #[aggK t] w (Gives (.int .i64 (wholeV t)) w) := by
  obtain ⟨b1, b2, b3, b4, _, _⟩ := h.nums
  have HB := Lib.hid (Box.made w t)
  simp only [boxT] at HB
  have hag := h.again
  simp only [aggK]
  rcases hag with ⟨m1, m2, m3⟩ | ⟨m1, m2, m3⟩
  · have HV := Lib.hid (show wholeV t = t.C + (t.C + t.Seg - 1) / t.Seg * t.Cost by unfold wholeV; rw [if_pos m1])
    have hc := ceil_range (w := t.C) (T := t.Seg) (by omega) m2
    have td : (t.C + t.Seg - 1).tdiv t.Seg = (t.C + t.Seg - 1) / t.Seg := Int.tdiv_eq_ediv_of_nonneg (by omega)
    have t2 : (t.Seg == 0) = false := by simp; omega
    have t1 : (t.Mode == 1) = true := by simp [m1]
    have p0 : 0 ≤ (t.C + t.Seg - 1) / t.Seg * t.Cost := Int.mul_nonneg hc.1 b3
    have p1 : (t.C + t.Seg - 1) / t.Seg * t.Cost ≤ 1048576 * 1000 := Int.mul_le_mul (by omega) b4 b3 (by omega)
    rw [HV.out]
    clear h m1
    obtain ⟨nm, tT, tD, tC, tA, tS, tc, tM, tK, tO, tP⟩ := t
    simp only at *
    go_enter Try.func47, Try.ntmps47
    go_wp2
    go_quiet (fail)
    go_wp2
    go_ret
    exact ⟨rfl, below_drewN HB.out.below _⟩
  · have HV := Lib.hid (show wholeV t = t.C + t.Cost by unfold wholeV; rw [if_neg (by omega)])
    have t1 : (t.Mode == 1) = false := by simp; omega
    rw [HV.out]
    clear h m1
    obtain ⟨nm, tT, tD, tC, tA, tS, tc, tM, tK, tO, tP⟩ := t
    simp only at *
    go_enter Try.func47, Try.ntmps47
    go_wp2
    go_ret
    exact ⟨rfl, HB.out.below⟩

def refDearRel (b p : Int) (l : List Tk) (a : Option Addr) (cap : Nat) (w : World) (m i : Value) (W : World) : Prop :=
  ∃ k : Nat, k ≤ l.length ∧ i = .int .i64 (k : Int) ∧ m = .int .i64 (maxE (dearQ p) (l.take k)) ∧ SetBox w b a l.length cap W
set_option maxRecDepth 100000 in
set_option maxHeartbeats 8000000 in
theorem refDear (b : Int) {l : List Tk} {a : Option Addr} {cap k : Nat} {o : Tk} {w : World} (hl : l.length ≤ 30) (hf : ∀ t ∈ l, Fine t) (ht : Tasks w a cap l) (ho : l[k]? = some o) (hd : Dist l) :
    Calls Try.prog 50 #[.agg #[.int .i64 b, .slice a l.length cap], .int .i64 (k : Int)] w (Gives (.int .i64 (maxE (dearQ o.Prio) l)) w) := by
  have hk := (List.getElem?_eq_some_iff.1 ho).1
  have HT := Lib.hid ht
  have HF := Lib.hid hf
  have HO := Lib.hid ho
  have HDI := Lib.hid hd
  have HB := Lib.hid (SetBox.made w b a l.length cap)
  have q1 : (0 : Int) ≤ (k : Int) := by omega
  have q2 : (k : Int) < (l.length : Int) := by omega
  clear ht hf ho hd
  go_enter Try.func50, Try.ntmps50
  go_wp2
  go_loopw [5, 6] (fun m i W => refDearRel b o.Prio l a cap w m i W) (fun _ i _ => l.length - (intOf i).toNat)
  case atStart => exact ⟨0, by omega, rfl, rfl, HB.out⟩
  case round =>
    obtain ⟨j, hj, rfl, rfl, hs⟩ := hrel
    have HS := Lib.hid hs
    clear hs
    obtain ⟨s0, s1⟩ := HS.out.cells
    by_cases hlt : j < l.length
    · have t1 : decide ((j : Int) < (l.length : Int)) = true := by simp; omega
      have hx : l[j]? = some l[j] := List.getElem?_eq_getElem hlt
      have HTW := Lib.hid (HT.out.below (Nat.le_refl _) HS.out.below)
      obtain ⟨bb, off, rfl, hbl, x0, x1, x2, x3, x4, x5, x6, x7, x8, x9, x10⟩ := HTW.out.cells hx
      have hfx := HF.out _ (List.getElem_mem hlt)
      have HX := maxE_next (q := dearQ o.Prio) hx
      have KE := Lib.hid (fun W => refExtra hfx W)
      obtain ⟨n1, n2⟩ := extra_nums hfx
      have HEQ : Hid (j = k → l[j].Prio = o.Prio) := Lib.hid (fun e => by
        have h2 := HO.out
        rw [← e, hx] at h2
        cases h2; rfl)
      have HNE : Hid (j ≠ k → l[j].Prio ≠ o.Prio) := Lib.hid (fun e h => e (HDI.out _ _ _ _ hx HO.out h))
      have q3 : (0 : Int) ≤ (j : Int) := by omega
      have q4 : (j : Int) < (l.length : Int) := by omega
      clear hfx hx
      generalize l[j] = x at *
      simp only [aggK] at KE
      generalize extraV x = ev at *
      generalize maxE (dearQ o.Prio) (l.take j) = mv at *
      go_upto_region 6 with fail
      obtain ⟨Y, hY⟩ : ∃ Y, Y = wr.alloc (.cells (boxT x) 39) := ⟨_, rfl⟩
      have HBX := Lib.hid (Lies.made wr 39 (boxT x))
      have HSY := Lib.hid (HS.out.tells (below_new wr (.cells (boxT x) 39)))
      have HTY := Lib.hid (HTW.out.below (Nat.le_refl _) (below_new wr (.cells (boxT x) 39)))
      rw [← hY] at HBX HSY HTY
      simp only [boxT] at hY
      rw [← hY]
      clear hY x0 x1 x2 x3 x4 x5 x6 x7 x8 x9 x10 HS HTW hbl s0 s1
      generalize wr.heap.size = bx at *
      obtain ⟨_, _, e1, hbo, o0, o1, o2, o3, o4, o5, o6, o7, o8, o9, o10⟩ := HTY.out.cells HO.out
      cases e1
      clear o0 o1 o2 o3 o4 o5 o6 o7 o8 o9
      obtain ⟨s0, s1⟩ := HSY.out.cells
      obtain ⟨y0, y1, y2, y3, y4, y5, y6, y7, y8, y9, y10⟩ := lies_cells HBX.out
      by_cases e1 : j = k
      · have t2 : ((j : Int) == (k : Int)) = true := by simp [e1]
        have t2' : (j == k) = true := by simp [e1]
        have e2 := HEQ.out e1
        rw [if_pos (by simp [dearQ, e2])] at HX
        (try clear e1)
        (try clear e2)
        (try clear e4)
        clear HEQ HNE
        by_cases hm : mv < ev
        · have t9 : decide (mv < ev) = true := decide_eq_true hm
          have k_y0 := cell_regrown y0
          have k_y1 := cell_regrown y1
          have k_y2 := cell_regrown y2
          have k_y3 := cell_regrown y3
          have k_y4 := cell_regrown y4
          have k_y5 := cell_regrown y5
          have k_y6 := cell_regrown y6
          have k_y7 := cell_regrown y7
          have k_y8 := cell_regrown y8
          have k_y9 := cell_regrown y9
          have k_y10 := cell_regrown y10
          have k_s1 := cell_regrown s1
          have k_o10 := cell_regrown o10
          have cE := fun d os => Calls.regrown_of (w := Y) (d := d) (os := os) (v := .int .i64 ev) (KE.out _)
          refine wp_region_quiet_below (by kernel_rfl) (by kernel_rfl) ?_
          repeat (go_big_quiet_step (with_reducible first | exact cE _ _))
          refine wpQuiet_nil ?_
          intro Z hw'
          obtain ⟨⟨dq, osq⟩, hw''⟩ := hw'
          have hbb := below_regrown Y dq osq
          dsimp only at hw''
          rw [← hw''] at hbb
          have HSZ := Lib.hid (HSY.out.tells hbb)
          have HBZ := Lib.hid (HBX.out.below hbb HBX.out.lt)
          clear hbb hw'' k_y0 k_y1 k_y2 k_y3 k_y4 k_y5 k_y6 k_y7 k_y8 k_y9 k_y10 k_s1 k_o10 cE y0 y1 y2 y3 y4 y5 y6 y7 y8 y9 y10 s0 s1 o10
          obtain ⟨y0, y1, y2, y3, y4, y5, y6, y7, y8, y9, y10⟩ := lies_cells HBZ.out
          go_wp2_with (fail)
          with_reducible refine (KE.out _).mono ?_
          rintro e w3 ⟨rfl, hb3⟩
          have HS3 := Lib.hid (HSZ.out.tells hb3)
          clear hb3
          go_wp2
          go_roundw
          case rel => exact ⟨j + 1, by omega, by go_num, by rw [HX]; congr 1; omega, HS3.out⟩
          case measure => simp [intOf]; omega
        · have t9 : decide (mv < ev) = false := decide_eq_false hm
          have k_y0 := cell_regrown y0
          have k_y1 := cell_regrown y1
          have k_y2 := cell_regrown y2
          have k_y3 := cell_regrown y3
          have k_y4 := cell_regrown y4
          have k_y5 := cell_regrown y5
          have k_y6 := cell_regrown y6
          have k_y7 := cell_regrown y7
          have k_y8 := cell_regrown y8
          have k_y9 := cell_regrown y9
          have k_y10 := cell_regrown y10
          have k_s1 := cell_regrown s1
          have k_o10 := cell_regrown o10
          have cE := fun d os => Calls.regrown_of (w := Y) (d := d) (os := os) (v := .int .i64 ev) (KE.out _)
          refine wp_region_quiet_below (by kernel_rfl) (by kernel_rfl) ?_
          repeat (go_big_quiet_step (with_reducible first | exact cE _ _))
          refine wpQuiet_nil ?_
          intro Z hw'
          obtain ⟨⟨dq, osq⟩, hw''⟩ := hw'
          have hbb := below_regrown Y dq osq
          dsimp only at hw''
          rw [← hw''] at hbb
          have HSZ := Lib.hid (HSY.out.tells hbb)
          have HBZ := Lib.hid (HBX.out.below hbb HBX.out.lt)
          clear hbb hw'' k_y0 k_y1 k_y2 k_y3 k_y4 k_y5 k_y6 k_y7 k_y8 k_y9 k_y10 k_s1 k_o10 cE y0 y1 y2 y3 y4 y5 y6 y7 y8 y9 y10 s0 s1 o10
          go_wp2
          go_roundw
          case rel => exact ⟨j + 1, by omega, by go_num, by rw [HX]; congr 1; omega, HSZ.out⟩
          case measure => simp [intOf]; omega
      · have t2 : ((j : Int) == (k : Int)) = false := by simp; omega
        have t2' : (j == k) = false := by simp [e1]
        have e2 := HNE.out e1
        by_cases e3 : x.Prio < o.Prio
        · have t3 : decide (x.Prio < o.Prio) = true := decide_eq_true e3
          rw [if_pos (by simp [dearQ]; omega)] at HX
          (try clear e1)
          (try clear e2)
          (try clear e4)
          clear HEQ HNE
          by_cases hm : mv < ev
          · have t9 : decide (mv < ev) = true := decide_eq_true hm
            have k_y0 := cell_regrown y0
            have k_y1 := cell_regrown y1
            have k_y2 := cell_regrown y2
            have k_y3 := cell_regrown y3
            have k_y4 := cell_regrown y4
            have k_y5 := cell_regrown y5
            have k_y6 := cell_regrown y6
            have k_y7 := cell_regrown y7
            have k_y8 := cell_regrown y8
            have k_y9 := cell_regrown y9
            have k_y10 := cell_regrown y10
            have k_s1 := cell_regrown s1
            have k_o10 := cell_regrown o10
            have cE := fun d os => Calls.regrown_of (w := Y) (d := d) (os := os) (v := .int .i64 ev) (KE.out _)
            refine wp_region_quiet_below (by kernel_rfl) (by kernel_rfl) ?_
            repeat (go_big_quiet_step (with_reducible first | exact cE _ _))
            refine wpQuiet_nil ?_
            intro Z hw'
            obtain ⟨⟨dq, osq⟩, hw''⟩ := hw'
            have hbb := below_regrown Y dq osq
            dsimp only at hw''
            rw [← hw''] at hbb
            have HSZ := Lib.hid (HSY.out.tells hbb)
            have HBZ := Lib.hid (HBX.out.below hbb HBX.out.lt)
            clear hbb hw'' k_y0 k_y1 k_y2 k_y3 k_y4 k_y5 k_y6 k_y7 k_y8 k_y9 k_y10 k_s1 k_o10 cE y0 y1 y2 y3 y4 y5 y6 y7 y8 y9 y10 s0 s1 o10
            obtain ⟨y0, y1, y2, y3, y4, y5, y6, y7, y8, y9, y10⟩ := lies_cells HBZ.out
            go_wp2_with (fail)
            with_reducible refine (KE.out _).mono ?_
            rintro e w3 ⟨rfl, hb3⟩
            have HS3 := Lib.hid (HSZ.out.tells hb3)
            clear hb3
            go_wp2
            go_roundw
            case rel => exact ⟨j + 1, by omega, by go_num, by rw [HX]; congr 1; omega, HS3.out⟩
            case measure => simp [intOf]; omega
          · have t9 : decide (mv < ev) = false := decide_eq_false hm
            have k_y0 := cell_regrown y0
            have k_y1 := cell_regrown y1
            have k_y2 := cell_regrown y2
            have k_y3 := cell_regrown y3
            have k_y4 := cell_regrown y4
            have k_y5 := cell_regrown y5
            have k_y6 := cell_regrown y6
            have k_y7 := cell_regrown y7
            have k_y8 := cell_regrown y8
            have k_y9 := cell_regrown y9
            have k_y10 := cell_regrown y10
            have k_s1 := cell_regrown s1
            have k_o10 := cell_regrown o10
            have cE := fun d os => Calls.regrown_of (w := Y) (d := d) (os := os) (v := .int .i64 ev) (KE.out _)
            refine wp_region_quiet_below (by kernel_rfl) (by kernel_rfl) ?_
            repeat (go_big_quiet_step (with_reducible first | exact cE _ _))
            refine wpQuiet_nil ?_
            intro Z hw'
            obtain ⟨⟨dq, osq⟩, hw''⟩ := hw'
            have hbb := below_regrown Y dq osq
            dsimp only at hw''
            rw [← hw''] at hbb
            have HSZ := Lib.hid (HSY.out.tells hbb)
            have HBZ := Lib.hid (HBX.out.below hbb HBX.out.lt)
            clear hbb hw'' k_y0 k_y1 k_y2 k_y3 k_y4 k_y5 k_y6 k_y7 k_y8 k_y9 k_y10 k_s1 k_o10 cE y0 y1 y2 y3 y4 y5 y6 y7 y8 y9 y10 s0 s1 o10
            go_wp2
            go_roundw
            case rel => exact ⟨j + 1, by omega, by go_num, by rw [HX]; congr 1; omega, HSZ.out⟩
            case measure => simp [intOf]; omega
        · have t3 : decide (x.Prio < o.Prio) = false := decide_eq_false e3
          by_cases e4 : x.Mode = 3
          · have t4 : (x.Mode == 3) = true := by simp [e4]
            rw [if_pos (by simp [dearQ, e4])] at HX
            (try clear e1)
            (try clear e2)
            (try clear e4)
            clear HEQ HNE
            by_cases hm : mv < ev
            · have t9 : decide (mv < ev) = true := decide_eq_true hm
              have k_y0 := cell_regrown y0
              have k_y1 := cell_regrown y1
              have k_y2 := cell_regrown y2
              have k_y3 := cell_regrown y3
              have k_y4 := cell_regrown y4
              have k_y5 := cell_regrown y5
              have k_y6 := cell_regrown y6
              have k_y7 := cell_regrown y7
              have k_y8 := cell_regrown y8
              have k_y9 := cell_regrown y9
              have k_y10 := cell_regrown y10
              have k_s1 := cell_regrown s1
              have k_o10 := cell_regrown o10
              have cE := fun d os => Calls.regrown_of (w := Y) (d := d) (os := os) (v := .int .i64 ev) (KE.out _)
              refine wp_region_quiet_below (by kernel_rfl) (by kernel_rfl) ?_
              repeat (go_big_quiet_step (with_reducible first | exact cE _ _))
              refine wpQuiet_nil ?_
              intro Z hw'
              obtain ⟨⟨dq, osq⟩, hw''⟩ := hw'
              have hbb := below_regrown Y dq osq
              dsimp only at hw''
              rw [← hw''] at hbb
              have HSZ := Lib.hid (HSY.out.tells hbb)
              have HBZ := Lib.hid (HBX.out.below hbb HBX.out.lt)
              clear hbb hw'' k_y0 k_y1 k_y2 k_y3 k_y4 k_y5 k_y6 k_y7 k_y8 k_y9 k_y10 k_s1 k_o10 cE y0 y1 y2 y3 y4 y5 y6 y7 y8 y9 y10 s0 s1 o10
              obtain ⟨y0, y1, y2, y3, y4, y5, y6, y7, y8, y9, y10⟩ := lies_cells HBZ.out
              go_wp2_with (fail)
              with_reducible refine (KE.out _).mono ?_
              rintro e w3 ⟨rfl, hb3⟩
              have HS3 := Lib.hid (HSZ.out.tells hb3)
              clear hb3
              go_wp2
              go_roundw
              case rel => exact ⟨j + 1, by omega, by go_num, by rw [HX]; congr 1; omega, HS3.out⟩
              case measure => simp [intOf]; omega
            · have t9 : decide (mv < ev) = false := decide_eq_false hm
              have k_y0 := cell_regrown y0
              have k_y1 := cell_regrown y1
              have k_y2 := cell_regrown y2
              have k_y3 := cell_regrown y3
              have k_y4 := cell_regrown y4
              have k_y5 := cell_regrown y5
              have k_y6 := cell_regrown y6
              have k_y7 := cell_regrown y7
              have k_y8 := cell_regrown y8
              have k_y9 := cell_regrown y9
              have k_y10 := cell_regrown y10
              have k_s1 := cell_regrown s1
              have k_o10 := cell_regrown o10
              have cE := fun d os => Calls.regrown_of (w := Y) (d := d) (os := os) (v := .int .i64 ev) (KE.out _)
              refine wp_region_quiet_below (by kernel_rfl) (by kernel_rfl) ?_
              repeat (go_big_quiet_step (with_reducible first | exact cE _ _))
              refine wpQuiet_nil ?_
              intro Z hw'
              obtain ⟨⟨dq, osq⟩, hw''⟩ := hw'
              have hbb := below_regrown Y dq osq
              dsimp only at hw''
              rw [← hw''] at hbb
              have HSZ := Lib.hid (HSY.out.tells hbb)
              have HBZ := Lib.hid (HBX.out.below hbb HBX.out.lt)
              clear hbb hw'' k_y0 k_y1 k_y2 k_y3 k_y4 k_y5 k_y6 k_y7 k_y8 k_y9 k_y10 k_s1 k_o10 cE y0 y1 y2 y3 y4 y5 y6 y7 y8 y9 y10 s0 s1 o10
              go_wp2
              go_roundw
              case rel => exact ⟨j + 1, by omega, by go_num, by rw [HX]; congr 1; omega, HSZ.out⟩
              case measure => simp [intOf]; omega
          · have t4 : (x.Mode == 3) = false := by simp [e4]
            rw [if_neg (by simp [dearQ]; omega)] at HX
            (try clear e1)
            (try clear e2)
            (try clear e4)
            clear HEQ HNE
            have k_y0 := cell_regrown y0
            have k_y1 := cell_regrown y1
            have k_y2 := cell_regrown y2
            have k_y3 := cell_regrown y3
            have k_y4 := cell_regrown y4
            have k_y5 := cell_regrown y5
            have k_y6 := cell_regrown y6
            have k_y7 := cell_regrown y7
            have k_y8 := cell_regrown y8
            have k_y9 := cell_regrown y9
            have k_y10 := cell_regrown y10
            have k_s1 := cell_regrown s1
            have k_o10 := cell_regrown o10
            have cE := fun d os => Calls.regrown_of (w := Y) (d := d) (os := os) (v := .int .i64 ev) (KE.out _)
            refine wp_region_quiet_below (by kernel_rfl) (by kernel_rfl) ?_
            repeat (go_big_quiet_step (with_reducible first | exact cE _ _))
            refine wpQuiet_nil ?_
            intro Z hw'
            obtain ⟨⟨dq, osq⟩, hw''⟩ := hw'
            have hbb := below_regrown Y dq osq
            dsimp only at hw''
            rw [← hw''] at hbb
            have HSZ := Lib.hid (HSY.out.tells hbb)
            have HBZ := Lib.hid (HBX.out.below hbb HBX.out.lt)
            clear hbb hw'' k_y0 k_y1 k_y2 k_y3 k_y4 k_y5 k_y6 k_y7 k_y8 k_y9 k_y10 k_s1 k_o10 cE y0 y1 y2 y3 y4 y5 y6 y7 y8 y9 y10 s0 s1 o10
            go_wp2
            go_roundw
            case rel => exact ⟨j + 1, by omega, by go_num, by rw [HX], HSZ.out⟩
            case measure => simp [intOf]; omega
    · have t1 : decide ((j : Int) < (l.length : Int)) = false := by simp; omega
      obtain rfl : j = l.length := by omega
      rw [List.take_length]
      generalize maxE (dearQ o.Prio) l = mv at *
      go_wp2
      go_ret
      exact ⟨rfl, HS.out.below⟩

def refAheadRel (b p : Int) (l : List Tk) (a : Option Addr) (cap : Nat) (w : World) (m i : Value) (W : World) : Prop :=
  ∃ k : Nat, k ≤ l.length ∧ i = .int .i64 (k : Int) ∧ m = .int .i64 (maxE (aheadQ p) (l.take k)) ∧ SetBox w b a l.length cap W
set_option maxRecDepth 100000 in
set_option maxHeartbeats 8000000 in
theorem refAhead (b : Int) {l : List Tk} {a : Option Addr} {cap k : Nat} {o : Tk} {w : World} (hl : l.length ≤ 30) (hf : ∀ t ∈ l, Fine t) (ht : Tasks w a cap l) (ho : l[k]? = some o) (hd : Dist l) :
    Calls Try.prog 48 #[.agg #[.int .i64 b, .slice a l.length cap], .int .i64 (k : Int)] w (Gives (.int .i64 (maxE (aheadQ o.Prio) l)) w) := by
  have hk := (List.getElem?_eq_some_iff.1 ho).1
  have HT := Lib.hid ht
  have HF := Lib.hid hf
  have HO := Lib.hid ho
  have HDI := Lib.hid hd
  have HB := Lib.hid (SetBox.made w b a l.length cap)
  have q1 : (0 : Int) ≤ (k : Int) := by omega
  have q2 : (k : Int) < (l.length : Int) := by omega
  clear ht hf ho hd
  go_enter Try.func48, Try.ntmps48
  go_wp2
  go_loopw [5, 6] (fun m i W => refAheadRel b o.Prio l a cap w m i W) (fun _ i _ => l.length - (intOf i).toNat)
  case atStart => exact ⟨0, by omega, rfl, rfl, HB.out⟩
  case round =>
    obtain ⟨j, hj, rfl, rfl, hs⟩ := hrel
    have HS := Lib.hid hs
    clear hs
    obtain ⟨s0, s1⟩ := HS.out.cells
    by_cases hlt : j < l.length
    · have t1 : decide ((j : Int) < (l.length : Int)) = true := by simp; omega
      have hx : l[j]? = some l[j] := List.getElem?_eq_getElem hlt
      have HTW := Lib.hid (HT.out.below (Nat.le_refl _) HS.out.below)
      obtain ⟨bb, off, rfl, hbl, x0, x1, x2, x3, x4, x5, x6, x7, x8, x9, x10⟩ := HTW.out.cells hx
      have hfx := HF.out _ (List.getElem_mem hlt)
      have HX := maxE_next (q := aheadQ o.Prio) hx
      have KE := Lib.hid (fun W => refExtra hfx W)
      obtain ⟨n1, n2⟩ := extra_nums hfx
      have HEQ : Hid (j = k → l[j].Prio = o.Prio) := Lib.hid (fun e => by
        have h2 := HO.out
        rw [← e, hx] at h2
        cases h2; rfl)
      have HNE : Hid (j ≠ k → l[j].Prio ≠ o.Prio) := Lib.hid (fun e h => e (HDI.out _ _ _ _ hx HO.out h))
      have q3 : (0 : Int) ≤ (j : Int) := by omega
      have q4 : (j : Int) < (l.length : Int) := by omega
      clear hfx hx
      generalize l[j] = x at *
      simp only [aggK] at KE
      generalize extraV x = ev at *
      generalize maxE (aheadQ o.Prio) (l.take j) = mv at *
      go_upto_region 6 with fail
      obtain ⟨Y, hY⟩ : ∃ Y, Y = wr.alloc (.cells (boxT x) 39) := ⟨_, rfl⟩
      have HBX := Lib.hid (Lies.made wr 39 (boxT x))
      have HSY := Lib.hid (HS.out.tells (below_new wr (.cells (boxT x) 39)))
      have HTY := Lib.hid (HTW.out.below (Nat.le_refl _) (below_new wr (.cells (boxT x) 39)))
      rw [← hY] at HBX HSY HTY
      simp only [boxT] at hY
      rw [← hY]
      clear hY x0 x1 x2 x3 x4 x5 x6 x7 x8 x9 x10 HS HTW hbl s0 s1
      generalize wr.heap.size = bx at *
      obtain ⟨_, _, e1, hbo, o0, o1, o2, o3, o4, o5, o6, o7, o8, o9, o10⟩ := HTY.out.cells HO.out
      cases e1
      clear o0 o1 o2 o3 o4 o5 o6 o7 o8 o9
      obtain ⟨s0, s1⟩ := HSY.out.cells
      obtain ⟨y0, y1, y2, y3, y4, y5, y6, y7, y8, y9, y10⟩ := lies_cells HBX.out
      by_cases e1 : j = k
      · have t2 : ((j : Int) == (k : Int)) = true := by simp [e1]
        have t2' : (j == k) = true := by simp [e1]
        have e2 := HEQ.out e1
        by_cases e4 : x.Mode = 3
        · have t4 : (x.Mode == 3) = true := by simp [e4]
          rw [if_pos (by simp [aheadQ, e2, e4])] at HX
          (try clear e1)
          (try clear e2)
          (try clear e4)
          clear HEQ HNE
          by_cases hm : mv < ev
          · have t9 : decide (mv < ev) = true := decide_eq_true hm
            have k_y0 := cell_regrown y0
            have k_y1 := cell_regrown y1
            have k_y2 := cell_regrown y2
            have k_y3 := cell_regrown y3
            have k_y4 := cell_regrown y4
            have k_y5 := cell_regrown y5
            have k_y6 := cell_regrown y6
            have k_y7 := cell_regrown y7
            have k_y8 := cell_regrown y8
            have k_y9 := cell_regrown y9
            have k_y10 := cell_regrown y10
            have k_s1 := cell_regrown s1
            have k_o10 := cell_regrown o10
            have cE := fun d os => Calls.regrown_of (w := Y) (d := d) (os := os) (v := .int .i64 ev) (KE.out _)
            refine wp_region_quiet_below (by kernel_rfl) (by kernel_rfl) ?_
            repeat (go_big_quiet_step (with_reducible first | exact cE _ _))
            refine wpQuiet_nil ?_
            intro Z hw'
            obtain ⟨⟨dq, osq⟩, hw''⟩ := hw'
            have hbb := below_regrown Y dq osq
            dsimp only at hw''
            rw [← hw''] at hbb
            have HSZ := Lib.hid (HSY.out.tells hbb)
            have HBZ := Lib.hid (HBX.out.below hbb HBX.out.lt)
            clear hbb hw'' k_y0 k_y1 k_y2 k_y3 k_y4 k_y5 k_y6 k_y7 k_y8 k_y9 k_y10 k_s1 k_o10 cE y0 y1 y2 y3 y4 y5 y6 y7 y8 y9 y10 s0 s1 o10
            obtain ⟨y0, y1, y2, y3, y4, y5, y6, y7, y8, y9, y10⟩ := lies_cells HBZ.out
            go_wp2_with (fail)
            with_reducible refine (KE.out _).mono ?_
            rintro e w3 ⟨rfl, hb3⟩
            have HS3 := Lib.hid (HSZ.out.tells hb3)
            clear hb3
            go_wp2
            go_roundw
            case rel => exact ⟨j + 1, by omega, by go_num, by rw [HX]; congr 1; omega, HS3.out⟩
            case measure => simp [intOf]; omega
          · have t9 : decide (mv < ev) = false := decide_eq_false hm
            have k_y0 := cell_regrown y0
            have k_y1 := cell_regrown y1
            have k_y2 := cell_regrown y2
            have k_y3 := cell_regrown y3
            have k_y4 := cell_regrown y4
            have k_y5 := cell_regrown y5
            have k_y6 := cell_regrown y6
            have k_y7 := cell_regrown y7
            have k_y8 := cell_regrown y8
            have k_y9 := cell_regrown y9
            have k_y10 := cell_regrown y10
            have k_s1 := cell_regrown s1
            have k_o10 := cell_regrown o10
            have cE := fun d os => Calls.regrown_of (w := Y) (d := d) (os := os) (v := .int .i64 ev) (KE.out _)
            refine wp_region_quiet_below (by kernel_rfl) (by kernel_rfl) ?_
            repeat (go_big_quiet_step (with_reducible first | exact cE _ _))
            refine wpQuiet_nil ?_
            intro Z hw'
            obtain ⟨⟨dq, osq⟩, hw''⟩ := hw'
            have hbb := below_regrown Y dq osq
            dsimp only at hw''
            rw [← hw''] at hbb
            have HSZ := Lib.hid (HSY.out.tells hbb)
            have HBZ := Lib.hid (HBX.out.below hbb HBX.out.lt)
            clear hbb hw'' k_y0 k_y1 k_y2 k_y3 k_y4 k_y5 k_y6 k_y7 k_y8 k_y9 k_y10 k_s1 k_o10 cE y0 y1 y2 y3 y4 y5 y6 y7 y8 y9 y10 s0 s1 o10
            go_wp2
            go_roundw
            case rel => exact ⟨j + 1, by omega, by go_num, by rw [HX]; congr 1; omega, HSZ.out⟩
            case measure => simp [intOf]; omega
        · have t4 : (x.Mode == 3) = false := by simp [e4]
          rw [if_neg (by simp [aheadQ, e4])] at HX
          (try clear e1)
          (try clear e2)
          (try clear e4)
          clear HEQ HNE
          have k_y0 := cell_regrown y0
          have k_y1 := cell_regrown y1
          have k_y2 := cell_regrown y2
          have k_y3 := cell_regrown y3
          have k_y4 := cell_regrown y4
          have k_y5 := cell_regrown y5
          have k_y6 := cell_regrown y6
          have k_y7 := cell_regrown y7
          have k_y8 := cell_regrown y8
          have k_y9 := cell_regrown y9
          have k_y10 := cell_regrown y10
          have k_s1 := cell_regrown s1
          have k_o10 := cell_regrown o10
          have cE := fun d os => Calls.regrown_of (w := Y) (d := d) (os := os) (v := .int .i64 ev) (KE.out _)
          refine wp_region_quiet_below (by kernel_rfl) (by kernel_rfl) ?_
          repeat (go_big_quiet_step (with_reducible first | exact cE _ _))
          refine wpQuiet_nil ?_
          intro Z hw'
          obtain ⟨⟨dq, osq⟩, hw''⟩ := hw'
          have hbb := below_regrown Y dq osq
          dsimp only at hw''
          rw [← hw''] at hbb
          have HSZ := Lib.hid (HSY.out.tells hbb)
          have HBZ := Lib.hid (HBX.out.below hbb HBX.out.lt)
          clear hbb hw'' k_y0 k_y1 k_y2 k_y3 k_y4 k_y5 k_y6 k_y7 k_y8 k_y9 k_y10 k_s1 k_o10 cE y0 y1 y2 y3 y4 y5 y6 y7 y8 y9 y10 s0 s1 o10
          go_wp2
          go_roundw
          case rel => exact ⟨j + 1, by omega, by go_num, by rw [HX], HSZ.out⟩
          case measure => simp [intOf]; omega
      · have t2 : ((j : Int) == (k : Int)) = false := by simp; omega
        have t2' : (j == k) = false := by simp [e1]
        have e2 := HNE.out e1
        by_cases e3 : o.Prio < x.Prio
        · have t3 : decide (o.Prio < x.Prio) = true := decide_eq_true e3
          by_cases e4 : x.Mode = 3
          · have t4 : (x.Mode == 3) = true := by simp [e4]
            rw [if_pos (by simp [aheadQ, e4]; omega)] at HX
            (try clear e1)
            (try clear e2)
            (try clear e4)
            clear HEQ HNE
            by_cases hm : mv < ev
            · have t9 : decide (mv < ev) = true := decide_eq_true hm
              have k_y0 := cell_regrown y0
              have k_y1 := cell_regrown y1
              have k_y2 := cell_regrown y2
              have k_y3 := cell_regrown y3
              have k_y4 := cell_regrown y4
              have k_y5 := cell_regrown y5
              have k_y6 := cell_regrown y6
              have k_y7 := cell_regrown y7
              have k_y8 := cell_regrown y8
              have k_y9 := cell_regrown y9
              have k_y10 := cell_regrown y10
              have k_s1 := cell_regrown s1
              have k_o10 := cell_regrown o10
              have cE := fun d os => Calls.regrown_of (w := Y) (d := d) (os := os) (v := .int .i64 ev) (KE.out _)
              refine wp_region_quiet_below (by kernel_rfl) (by kernel_rfl) ?_
              repeat (go_big_quiet_step (with_reducible first | exact cE _ _))
              refine wpQuiet_nil ?_
              intro Z hw'
              obtain ⟨⟨dq, osq⟩, hw''⟩ := hw'
              have hbb := below_regrown Y dq osq
              dsimp only at hw''
              rw [← hw''] at hbb
              have HSZ := Lib.hid (HSY.out.tells hbb)
              have HBZ := Lib.hid (HBX.out.below hbb HBX.out.lt)
              clear hbb hw'' k_y0 k_y1 k_y2 k_y3 k_y4 k_y5 k_y6 k_y7 k_y8 k_y9 k_y10 k_s1 k_o10 cE y0 y1 y2 y3 y4 y5 y6 y7 y8 y9 y10 s0 s1 o10
              obtain ⟨y0, y1, y2, y3, y4, y5, y6, y7, y8, y9, y10⟩ := lies_cells HBZ.out
              go_wp2_with (fail)
              with_reducible refine (KE.out _).mono ?_
              rintro e w3 ⟨rfl, hb3⟩
              have HS3 := Lib.hid (HSZ.out.tells hb3)
              clear hb3
              go_wp2
              go_roundw
              case rel => exact ⟨j + 1, by omega, by go_num, by rw [HX]; congr 1; omega, HS3.out⟩
              case measure => simp [intOf]; omega
            · have t9 : decide (mv < ev) = false := decide_eq_false hm
              have k_y0 := cell_regrown y0
              have k_y1 := cell_regrown y1
              have k_y2 := cell_regrown y2
              have k_y3 := cell_regrown y3
              have k_y4 := cell_regrown y4
              have k_y5 := cell_regrown y5
              have k_y6 := cell_regrown y6
              have k_y7 := cell_regrown y7
              have k_y8 := cell_regrown y8
              have k_y9 := cell_regrown y9
              have k_y10 := cell_regrown y10
              have k_s1 := cell_regrown s1
              have k_o10 := cell_regrown o10
              have cE := fun d os => Calls.regrown_of (w := Y) (d := d) (os := os) (v := .int .i64 ev) (KE.out _)
              refine wp_region_quiet_below (by kernel_rfl) (by kernel_rfl) ?_
              repeat (go_big_quiet_step (with_reducible first | exact cE _ _))
              refine wpQuiet_nil ?_
              intro Z hw'
              obtain ⟨⟨dq, osq⟩, hw''⟩ := hw'
              have hbb := below_regrown Y dq osq
              dsimp only at hw''
              rw [← hw''] at hbb
              have HSZ := Lib.hid (HSY.out.tells hbb)
              have HBZ := Lib.hid (HBX.out.below hbb HBX.out.lt)
              clear hbb hw'' k_y0 k_y1 k_y2 k_y3 k_y4 k_y5 k_y6 k_y7 k_y8 k_y9 k_y10 k_s1 k_o10 cE y0 y1 y2 y3 y4 y5 y6 y7 y8 y9 y10 s0 s1 o10
              go_wp2
              go_roundw
              case rel => exact ⟨j + 1, by omega, by go_num, by rw [HX]; congr 1; omega, HSZ.out⟩
              case measure => simp [intOf]; omega
          · have t4 : (x.Mode == 3) = false := by simp [e4]
            rw [if_neg (by simp [aheadQ, e4])] at HX
            (try clear e1)
            (try clear e2)
            (try clear e4)
            clear HEQ HNE
            have k_y0 := cell_regrown y0
            have k_y1 := cell_regrown y1
            have k_y2 := cell_regrown y2
            have k_y3 := cell_regrown y3
            have k_y4 := cell_regrown y4
            have k_y5 := cell_regrown y5
            have k_y6 := cell_regrown y6
            have k_y7 := cell_regrown y7
            have k_y8 := cell_regrown y8
            have k_y9 := cell_regrown y9
            have k_y10 := cell_regrown y10
            have k_s1 := cell_regrown s1
            have k_o10 := cell_regrown o10
            have cE := fun d os => Calls.regrown_of (w := Y) (d := d) (os := os) (v := .int .i64 ev) (KE.out _)
            refine wp_region_quiet_below (by kernel_rfl) (by kernel_rfl) ?_
            repeat (go_big_quiet_step (with_reducible first | exact cE _ _))
            refine wpQuiet_nil ?_
            intro Z hw'
            obtain ⟨⟨dq, osq⟩, hw''⟩ := hw'
            have hbb := below_regrown Y dq osq
            dsimp only at hw''
            rw [← hw''] at hbb
            have HSZ := Lib.hid (HSY.out.tells hbb)
            have HBZ := Lib.hid (HBX.out.below hbb HBX.out.lt)
            clear hbb hw'' k_y0 k_y1 k_y2 k_y3 k_y4 k_y5 k_y6 k_y7 k_y8 k_y9 k_y10 k_s1 k_o10 cE y0 y1 y2 y3 y4 y5 y6 y7 y8 y9 y10 s0 s1 o10
            go_wp2
            go_roundw
            case rel => exact ⟨j + 1, by omega, by go_num, by rw [HX], HSZ.out⟩
            case measure => simp [intOf]; omega
        · have t3 : decide (o.Prio < x.Prio) = false := decide_eq_false e3
          rw [if_neg (by simp [aheadQ]; omega)] at HX
          (try clear e1)
          (try clear e2)
          (try clear e4)
          clear HEQ HNE
          have k_y0 := cell_regrown y0
          have k_y1 := cell_regrown y1
          have k_y2 := cell_regrown y2
          have k_y3 := cell_regrown y3
          have k_y4 := cell_regrown y4
          have k_y5 := cell_regrown y5
          have k_y6 := cell_regrown y6
          have k_y7 := cell_regrown y7
          have k_y8 := cell_regrown y8
          have k_y9 := cell_regrown y9
          have k_y10 := cell_regrown y10
          have k_s1 := cell_regrown s1
          have k_o10 := cell_regrown o10
          have cE := fun d os => Calls.regrown_of (w := Y) (d := d) (os := os) (v := .int .i64 ev) (KE.out _)
          refine wp_region_quiet_below (by kernel_rfl) (by kernel_rfl) ?_
          repeat (go_big_quiet_step (with_reducible first | exact cE _ _))
          refine wpQuiet_nil ?_
          intro Z hw'
          obtain ⟨⟨dq, osq⟩, hw''⟩ := hw'
          have hbb := below_regrown Y dq osq
          dsimp only at hw''
          rw [← hw''] at hbb
          have HSZ := Lib.hid (HSY.out.tells hbb)
          have HBZ := Lib.hid (HBX.out.below hbb HBX.out.lt)
          clear hbb hw'' k_y0 k_y1 k_y2 k_y3 k_y4 k_y5 k_y6 k_y7 k_y8 k_y9 k_y10 k_s1 k_o10 cE y0 y1 y2 y3 y4 y5 y6 y7 y8 y9 y10 s0 s1 o10
          go_wp2
          go_roundw
          case rel => exact ⟨j + 1, by omega, by go_num, by rw [HX], HSZ.out⟩
          case measure => simp [intOf]; omega
    · have t1 : decide ((j : Int) < (l.length : Int)) = false := by simp; omega
      obtain rfl : j = l.length := by omega
      rw [List.take_length]
      generalize maxE (aheadQ o.Prio) l = mv at *
      go_wp2
      go_ret
      exact ⟨rfl, HS.out.below⟩
end Go.Proofs.Ytklnokhabomnfaa
