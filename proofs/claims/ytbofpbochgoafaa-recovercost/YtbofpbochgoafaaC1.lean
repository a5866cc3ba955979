/- The walk of the statement on what faults cost. -/
import Derived.Test.YtbofpbochgoafaaSt
namespace Go.Proofs.Ytbofpbochgoafaa
open Go.RowKit

def CostRel (w : World) (t : Tk) (g : Nat) (d s : Int) (n N : Nat) (st ti cl : Value) (W : World) : Prop :=
  ∃ (k : Nat) (l : Int) (b : Bool) (f : Int) (i : Nat) (j : Int), st = .int .i64 j ∧ ti = .int .i64 (i : Int) ∧ ∃ c : Bool, cl = .bool c ∧ c = (!b) ∧ St w t g d k l b f W ∧ CostI t d s n N k l b f i j
set_option maxRecDepth 100000 in
set_option maxHeartbeats 8000000 in
theorem coreCost (t : Tk) (d : Int) (a : Option Addr) (N cap : Nat) (L : List Bool) (hL : L.length = N) (w : World) (hBo : Bools w a cap L) : Calls Try.prog 3 #[aggK t, .int .i64 d, .slice a N cap] w (Woke w) := by
  have HBo := Lib.hid hBo
  clear hBo
  have HB := Lib.hid (Box.made w t)
  have KS := Lib.hid (fun W => smallCall t d W)
  simp only [boxT] at HB
  simp only [aggK] at KS ⊢
  go_enter Try.func3, Try.ntmps3
  go_wp2_with (fail)
  refine (awake _).mono ?_
  rintro e w1 ⟨rfl, hb1⟩
  have HB1 := Lib.hid (HB.out.tells hb1)
  clear hb1 HB
  obtain ⟨y0, y1, y2, y3, y4, y5, y6, y7, y8, y9, y10⟩ := HB1.out.cells
  by_cases hN : 300 < N
  · have q1 : decide ((300 : Int) < (N : Int)) = true := decide_eq_true (by omega)
    have q1' : decide (300 < N) = true := decide_eq_true hN
    go_wp2_with (fail)
    refine (awake _).mono ?_
    rintro e w9 ⟨rfl, hb9⟩
    have H9 := Lib.hid (HB1.out.tells hb9)
    clear hb9
    go_wp2
    go_ret
    exact ⟨rfl, H9.out.below⟩
  · have q1 : decide ((300 : Int) < (N : Int)) = false := decide_eq_false (by omega)
    have q1' : decide (300 < N) = false := decide_eq_false hN
    have hN3 : N ≤ 300 := by omega
    go_wp2_with (fail)
    with_reducible refine (KS.out _).mono ?_
    rintro e w2 ⟨rfl, hb2⟩
    have HB2 := Lib.hid (HB1.out.tells hb2)
    clear hb2 y0 y1 y2 y3 y4 y5 y6 y7 y8 y9 y10 HB1 KS q1 q1' hN
    obtain ⟨y0, y1, y2, y3, y4, y5, y6, y7, y8, y9, y10⟩ := HB2.out.cells
    cases hR : smallT t d with
    | false =>
      clear hR
      go_wp2_with (fail)
      refine (awake _).mono ?_
      rintro e w9 ⟨rfl, hb9⟩
      have H9 := Lib.hid (HB2.out.tells hb9)
      clear hb9
      go_wp2
      go_ret
      exact ⟨rfl, H9.out.below⟩
    | true =>
      obtain ⟨n, s, h⟩ := small_of hR
      clear hR
      have KB := Lib.hid (fun W => begin_ h W)
      simp only [aggK] at KB
      go_wp2_with (fail)
      with_reducible refine (KB.out _).mono ?_
      rintro e w3 ⟨rfl, hb3⟩
      have HB3 := Lib.hid (HB2.out.tells hb3)
      clear hb3 HB2 KB y0 y1 y2 y3 y4 y5 y6 y7 y8 y9 y10
      go_wp2_with (first
       | (with_reducible refine lay_run ?_ ?_ ?_
          rfl
          rfl
          intro g V hg hb hz)
       | (with_reducible apply write_run (x := .tmp 7) (y := .tmp 34) (hL := hz)
          rfl
          rfl
          rfl
          rfl
          intro W4 hw hl
          have HS := Lib.hid (St.begun HB3.out hg hb hw hl)
          clear hw hl hz hb hg))
      obtain ⟨M, hM⟩ : ∃ M : Int, 600000 ≤ M := ⟨600000, Int.le_refl _⟩
      go_wp2
      go_loopw [9, 10, 11] (fun st ti cl W => CostRel w t g d s n N st ti cl W) (fun _ ti _ _ => (M - intOf ti).toNat)
      case atStart => exact ⟨0, _, _, _, 0, 0, rfl, rfl, true, rfl, rfl, HS.out, CostI.first h N⟩
      case round =>
        obtain ⟨k, l, b, f, i, j, rfl, rfl, c, rfl, hcb, hst, hc⟩ := hrel
        clear HS
        have HS := Lib.hid hst
        have hG := hc.good
        have hG0 := hG.f0
        obtain ⟨m1, m2, m3, m4, m5⟩ := hc.few h hN3
        have hji := hc.ji
        clear hst
        by_cases hlt : i < N
        · have q1 : decide ((i : Int) < (N : Int)) = true := by simp; omega
          have hx : L[i]? = some (L[i]'(by omega)) := List.getElem?_eq_getElem _
          obtain ⟨bb, off, rfl, hbb, hcell⟩ := HBo.out.at_ hx
          have cb := hcell _ HS.out.below
          clear hcell hx
          generalize L[i]'_ = q at cb
          cases q with
          | true =>
            have KT := Lib.hid (fun W => step (f := f) (b := b) true h hG.part hG.l1 (hG.most h) hG.f0 (by omega) W)
            have HGo := Lib.hid (fun (k' : Nat) (l' : Int) (b' : Bool) (f' ev : Int) (st : Stp t d s n k l b f true k' l' b' f' ev) he => hc.goes (h := h) (by intro _; exact hlt) st he)
            go_wp2_with (first
             | (with_reducible refine load_run ?_ (.tmp 7) ?_ ?_ HS.out.lies ?_
                rfl
                rfl
                rfl))
            with_reducible refine (KT.out _).mono ?_
            rintro en w2 ⟨k', l', b', f', ev, rfl, hb2, hst2⟩
            have HS2 := Lib.hid (HS.out.tells hb2)
            have HST := Lib.hid hst2
            clear hb2 HS KT
            cases hst2 with
            | runs hl =>
              have HN : Hid (CostI t d s n N k (l - 1) true f (i + 1) (j + 1)) := by
                have x := HGo.out _ _ _ _ _ HST.out (by omega)
                rw [Bool.or_true] at x
                exact x
              have q9 : decide ((1000000 : Int) < (i : Int) + 1) = false := decide_eq_false (by omega)
              clear HST HGo
              go_wp2_with (first
               | (with_reducible refine lay_run ?_ ?_ ?_
                  rfl
                  rfl
                  intro gx Vx hgx hbx hzx)
               | (with_reducible apply write_run (x := .tmp 13) (y := .tmp 55) (hL := hzx)
                  rfl
                  rfl
                  rfl
                  rfl
                  intro Wx hwx hlx
                  have HS3 := Lib.hid (HS2.out.aside hgx hbx hwx)
                  clear hwx hzx hbx hgx)
               | (with_reducible refine load_run ?_ (.tmp 13) ?_ ?_ hlx ?_
                  rfl
                  rfl
                  rfl)
               | (with_reducible apply write_run (x := .tmp 7) (y := .tmp 57) (hL := HS3.out.lies)
                  rfl
                  rfl
                  rfl
                  rfl
                  intro Wy hwy hly
                  have HS4 := Lib.hid (HS3.out.wrote hwy hly)
                  have HG4 := Lib.hid HS4.out.fails
                  clear hwy hly hlx HS3))
              go_roundw
              case rel => exact ⟨_, _, _, _, i + 1, _, rfl, by go_num, _, rfl, by simp, HS4.out, HN.out⟩
              case measure => simp only [intOf]; omega
            | fails hl hb ev hev =>
              have HN : Hid (CostI t d s n N (backK t k) (lenV t s d (backK t k)) false (f + 1) (i + 1) (j + 1)) := by
                have x := HGo.out _ _ _ _ _ HST.out (by omega)
                skip
                exact x
              have q9 : decide ((1000000 : Int) < (i : Int) + 1) = false := decide_eq_false (by omega)
              have v4 : (ev == 4) = false := by simp; omega
              have v0 : (ev == 0) = false := by simp; omega
              have v0' : (ev != 0) = true := by simp; omega
              clear HST HGo
              go_wp2_with (first
               | (with_reducible refine lay_run ?_ ?_ ?_
                  rfl
                  rfl
                  intro gx Vx hgx hbx hzx)
               | (with_reducible apply write_run (x := .tmp 13) (y := .tmp 55) (hL := hzx)
                  rfl
                  rfl
                  rfl
                  rfl
                  intro Wx hwx hlx
                  have HS3 := Lib.hid (HS2.out.aside hgx hbx hwx)
                  clear hwx hzx hbx hgx)
               | (with_reducible refine load_run ?_ (.tmp 13) ?_ ?_ hlx ?_
                  rfl
                  rfl
                  rfl)
               | (with_reducible apply write_run (x := .tmp 7) (y := .tmp 57) (hL := HS3.out.lies)
                  rfl
                  rfl
                  rfl
                  rfl
                  intro Wy hwy hly
                  have HS4 := Lib.hid (HS3.out.wrote hwy hly)
                  have HG4 := Lib.hid HS4.out.fails
                  clear hwy hly hlx HS3))
              go_roundw
              case rel => exact ⟨_, _, _, _, i + 1, _, rfl, by go_num, _, rfl, by simp, HS4.out, HN.out⟩
              case measure => simp only [intOf]; omega
            | done hl hb hk => exact absurd hb (by cases b <;> simp)
            | passed hl hb hk => exact absurd hb (by cases b <;> simp)
          | false =>
            have KT := Lib.hid (fun W => step (f := f) (b := b) false h hG.part hG.l1 (hG.most h) hG.f0 (by omega) W)
            have HGo := Lib.hid (fun (k' : Nat) (l' : Int) (b' : Bool) (f' ev : Int) (st : Stp t d s n k l b f false k' l' b' f' ev) he => hc.goes (h := h) (by intro hq; cases hq) st he)
            go_wp2_with (first
             | (with_reducible refine load_run ?_ (.tmp 7) ?_ ?_ HS.out.lies ?_
                rfl
                rfl
                rfl))
            with_reducible refine (KT.out _).mono ?_
            rintro en w2 ⟨k', l', b', f', ev, rfl, hb2, hst2⟩
            have HS2 := Lib.hid (HS.out.tells hb2)
            have HST := Lib.hid hst2
            clear hb2 HS KT
            cases hst2 with
            | runs hl =>
              have HN : Hid (CostI t d s n N k (l - 1) b f (i + 1) (j)) := by
                have x := HGo.out _ _ _ _ _ HST.out (by omega)
                rw [Bool.or_false] at x
                exact x
              have q9 : decide ((1000000 : Int) < (i : Int) + 1) = false := decide_eq_false (by omega)
              clear HST HGo
              go_wp2_with (first
               | (with_reducible refine lay_run ?_ ?_ ?_
                  rfl
                  rfl
                  intro gx Vx hgx hbx hzx)
               | (with_reducible apply write_run (x := .tmp 13) (y := .tmp 55) (hL := hzx)
                  rfl
                  rfl
                  rfl
                  rfl
                  intro Wx hwx hlx
                  have HS3 := Lib.hid (HS2.out.aside hgx hbx hwx)
                  clear hwx hzx hbx hgx)
               | (with_reducible refine load_run ?_ (.tmp 13) ?_ ?_ hlx ?_
                  rfl
                  rfl
                  rfl)
               | (with_reducible apply write_run (x := .tmp 7) (y := .tmp 57) (hL := HS3.out.lies)
                  rfl
                  rfl
                  rfl
                  rfl
                  intro Wy hwy hly
                  have HS4 := Lib.hid (HS3.out.wrote hwy hly)
                  have HG4 := Lib.hid HS4.out.fails
                  clear hwy hly hlx HS3))
              go_roundw
              case rel => exact ⟨_, _, _, _, i + 1, _, rfl, by go_num, _, rfl, by simp, HS4.out, HN.out⟩
              case measure => simp only [intOf]; omega
            | fails hl hb ev hev =>
              have HN : Hid (CostI t d s n N (backK t k) (lenV t s d (backK t k)) false (f + 1) (i + 1) (j)) := by
                have x := HGo.out _ _ _ _ _ HST.out (by omega)
                skip
                exact x
              have q9 : decide ((1000000 : Int) < (i : Int) + 1) = false := decide_eq_false (by omega)
              have v4 : (ev == 4) = false := by simp; omega
              have v0 : (ev == 0) = false := by simp; omega
              have v0' : (ev != 0) = true := by simp; omega
              clear HST HGo
              go_wp2_with (first
               | (with_reducible refine lay_run ?_ ?_ ?_
                  rfl
                  rfl
                  intro gx Vx hgx hbx hzx)
               | (with_reducible apply write_run (x := .tmp 13) (y := .tmp 55) (hL := hzx)
                  rfl
                  rfl
                  rfl
                  rfl
                  intro Wx hwx hlx
                  have HS3 := Lib.hid (HS2.out.aside hgx hbx hwx)
                  clear hwx hzx hbx hgx)
               | (with_reducible refine load_run ?_ (.tmp 13) ?_ ?_ hlx ?_
                  rfl
                  rfl
                  rfl)
               | (with_reducible apply write_run (x := .tmp 7) (y := .tmp 57) (hL := HS3.out.lies)
                  rfl
                  rfl
                  rfl
                  rfl
                  intro Wy hwy hly
                  have HS4 := Lib.hid (HS3.out.wrote hwy hly)
                  have HG4 := Lib.hid HS4.out.fails
                  clear hwy hly hlx HS3))
              go_roundw
              case rel => exact ⟨_, _, _, _, i + 1, _, rfl, by go_num, _, rfl, by simp, HS4.out, HN.out⟩
              case measure => simp only [intOf]; omega
            | done hl hb hk =>
              have hb0 : b = false := by cases b <;> simp_all
              subst hb0 hl
              have HC := Lib.hid hc
              clear HST HGo
              go_wp2_with (first
               | (with_reducible refine lay_run ?_ ?_ ?_
                  rfl
                  rfl
                  intro gx Vx hgx hbx hzx)
               | (with_reducible apply write_run (x := .tmp 13) (y := .tmp 55) (hL := hzx)
                  rfl
                  rfl
                  rfl
                  rfl
                  intro Wx hwx hlx
                  have HS3 := Lib.hid (HS2.out.aside hgx hbx hwx)
                  clear hwx hzx hbx hgx)
               | (with_reducible refine load_run ?_ (.tmp 13) ?_ ?_ hlx ?_
                  rfl
                  rfl
                  rfl)
               | (with_reducible apply write_run (x := .tmp 7) (y := .tmp 57) (hL := HS3.out.lies)
                  rfl
                  rfl
                  rfl
                  rfl
                  intro Wy hwy hly
                  have HS4 := Lib.hid (HS3.out.wrote hwy hly)
                  have HG4 := Lib.hid HS4.out.fails
                  clear hwy hly hlx HS3)
               | (with_reducible refine load_task ?_ (.tmp 3) ?_ ?_ HS4.out.box.lies ?_
                  rfl
                  rfl
                  rfl))
              have HE := Lib.hid (HC.out.ends hk)
              obtain ⟨x1, x2, x3⟩ := HE.out
              have KP := Lib.hid (fun W => partsN h.fine h.ways h.dC (by have := h.C; omega) W)
              have HPS := Lib.hid (pl_small h.fine h.ways h.dC (by have := h.C; omega))
              have KX := Lib.hid (fun W => extra h.fine W)
              have LP := Lib.hid (length_pl s t.Cost d n)
              have hn5 := h.nums.2.2.2.2.2.1
              obtain ⟨s1, s2⟩ := h.sum
              obtain ⟨z1, z2⟩ := h.extra
              have hTB := HS4.out.box
              with_reducible refine (KP.out _).mono ?_
              rintro en w5 ⟨gp, cp, rfl, hgp, hcp, hrp, hb5⟩
              have HS5 := Lib.hid (HS4.out.tells hb5)
              have cSum := sumG (v := (pl s t.Cost d n).sum) LP.out (by omega) HPS.out hcp hrp rfl
              clear hb5 hrp hcp hgp hTB
              go_wp2_with (fail)
              with_reducible refine cSum.mono ?_
              rintro en w6 ⟨rfl, hb6⟩
              have HS6 := Lib.hid (HS5.out.tells hb6)
              clear hb6 cSum HS5
              obtain ⟨y0, y1, y2, y3, y4, y5, y6, y7, y8, y9, y10⟩ := HS6.out.box.cells
              have y15 := HS6.out.fails
              have k_y0 := cell_regrown y0
              have k_y1 := cell_regrown y1
              have k_y2 := cell_regrown y2
              have k_y3 := cell_regrown y3
              have k_y4 := cell_regrown y4
              have k_y5 := cell_regrown y5
              have k_y6 := cell_regrown y6
              have k_y7 := cell_regrown y7
              have k_y8 := cell_regrown y8
              have k_y9 := cell_regrown y9
              have k_y10 := cell_regrown y10
              have k_y15 := cell_regrown y15
              simp only [aggK] at KX
              generalize (pl s t.Cost d n).sum = S0 at *
              generalize extraV t = E at *
              have cX := fun dd os => Calls.regrown_of (w := w6) (d := dd) (os := os) (v := .int .i64 E) (KX.out _)
              have f1 : decide (f ≤ j) = true := decide_eq_true x1
              have f2 : decide ((i : Int) + 1 ≤ S0 + f * E) = true := decide_eq_true x2
              by_cases hf0 : f = 0
              · subst hf0
                have f4 : ((i : Int) + 1 == S0) = true := by simp [x3 rfl]
                have f5 : (i : Int) + 1 = S0 := x3 rfl
                go_wp2
                refine wp_region_quiet_below (by kernel_rfl) (by kernel_rfl) ?_
                repeat (go_big_quiet_step (with_reducible first | exact cX _ _))
                refine wpQuiet_nil ?_
                intro _ hw'
                obtain ⟨⟨dq, osq⟩, hw''⟩ := hw'
                subst hw''
                have HS7 := Lib.hid (HS6.out.tells (below_regrown w6 dq osq))
                go_wp2
                go_ret
                exact ⟨rfl, HS7.out.below⟩
              · have f3 : decide (0 < f) = true := decide_eq_true (by omega)
                go_wp2
                refine wp_region_quiet_below (by kernel_rfl) (by kernel_rfl) ?_
                repeat (go_big_quiet_step (with_reducible first | exact cX _ _))
                refine wpQuiet_nil ?_
                intro _ hw'
                obtain ⟨⟨dq, osq⟩, hw''⟩ := hw'
                subst hw''
                have HS7 := Lib.hid (HS6.out.tells (below_regrown w6 dq osq))
                go_wp2
                go_ret
                exact ⟨rfl, HS7.out.below⟩
            | passed hl hb hk =>
              have HN : Hid (CostI t d s n N (k + 1) (lenV t s d (k + 1)) false f (i + 1) (j)) := by
                have x := HGo.out _ _ _ _ _ HST.out (by omega)
                skip
                exact x
              have q9 : decide ((1000000 : Int) < (i : Int) + 1) = false := decide_eq_false (by omega)
              clear HST HGo
              go_wp2_with (first
               | (with_reducible refine lay_run ?_ ?_ ?_
                  rfl
                  rfl
                  intro gx Vx hgx hbx hzx)
               | (with_reducible apply write_run (x := .tmp 13) (y := .tmp 55) (hL := hzx)
                  rfl
                  rfl
                  rfl
                  rfl
                  intro Wx hwx hlx
                  have HS3 := Lib.hid (HS2.out.aside hgx hbx hwx)
                  clear hwx hzx hbx hgx)
               | (with_reducible refine load_run ?_ (.tmp 13) ?_ ?_ hlx ?_
                  rfl
                  rfl
                  rfl)
               | (with_reducible apply write_run (x := .tmp 7) (y := .tmp 57) (hL := HS3.out.lies)
                  rfl
                  rfl
                  rfl
                  rfl
                  intro Wy hwy hly
                  have HS4 := Lib.hid (HS3.out.wrote hwy hly)
                  have HG4 := Lib.hid HS4.out.fails
                  clear hwy hly hlx HS3))
              go_roundw
              case rel => exact ⟨_, _, _, _, i + 1, _, rfl, by go_num, _, rfl, by simp, HS4.out, HN.out⟩
              case measure => simp only [intOf]; omega
        · have q1 : decide ((i : Int) < (N : Int)) = false := by simp; omega
          have KT := Lib.hid (fun W => step (f := f) (b := b) false h hG.part hG.l1 (hG.most h) hG.f0 (by omega) W)
          have HGo := Lib.hid (fun (k' : Nat) (l' : Int) (b' : Bool) (f' ev : Int) (st : Stp t d s n k l b f false k' l' b' f' ev) he => hc.goes (h := h) (by intro hq; cases hq) st he)
          go_wp2_with (first
           | (with_reducible refine load_run ?_ (.tmp 7) ?_ ?_ HS.out.lies ?_
              rfl
              rfl
              rfl))
          with_reducible refine (KT.out _).mono ?_
          rintro en w2 ⟨k', l', b', f', ev, rfl, hb2, hst2⟩
          have HS2 := Lib.hid (HS.out.tells hb2)
          have HST := Lib.hid hst2
          clear hb2 HS KT
          cases hst2 with
          | runs hl =>
            have HN : Hid (CostI t d s n N k (l - 1) b f (i + 1) (j)) := by
              have x := HGo.out _ _ _ _ _ HST.out (by omega)
              rw [Bool.or_false] at x
              exact x
            have q9 : decide ((1000000 : Int) < (i : Int) + 1) = false := decide_eq_false (by omega)
            clear HST HGo
            go_wp2_with (first
             | (with_reducible refine lay_run ?_ ?_ ?_
                rfl
                rfl
                intro gx Vx hgx hbx hzx)
             | (with_reducible apply write_run (x := .tmp 13) (y := .tmp 55) (hL := hzx)
                rfl
                rfl
                rfl
                rfl
                intro Wx hwx hlx
                have HS3 := Lib.hid (HS2.out.aside hgx hbx hwx)
                clear hwx hzx hbx hgx)
             | (with_reducible refine load_run ?_ (.tmp 13) ?_ ?_ hlx ?_
                rfl
                rfl
                rfl)
             | (with_reducible apply write_run (x := .tmp 7) (y := .tmp 57) (hL := HS3.out.lies)
                rfl
                rfl
                rfl
                rfl
                intro Wy hwy hly
                have HS4 := Lib.hid (HS3.out.wrote hwy hly)
                have HG4 := Lib.hid HS4.out.fails
                clear hwy hly hlx HS3))
            go_roundw
            case rel => exact ⟨_, _, _, _, i + 1, _, rfl, by go_num, _, rfl, by simp, HS4.out, HN.out⟩
            case measure => simp only [intOf]; omega
          | fails hl hb ev hev =>
            have HN : Hid (CostI t d s n N (backK t k) (lenV t s d (backK t k)) false (f + 1) (i + 1) (j)) := by
              have x := HGo.out _ _ _ _ _ HST.out (by omega)
              skip
              exact x
            have q9 : decide ((1000000 : Int) < (i : Int) + 1) = false := decide_eq_false (by omega)
            have v4 : (ev == 4) = false := by simp; omega
            have v0 : (ev == 0) = false := by simp; omega
            have v0' : (ev != 0) = true := by simp; omega
            clear HST HGo
            go_wp2_with (first
             | (with_reducible refine lay_run ?_ ?_ ?_
                rfl
                rfl
                intro gx Vx hgx hbx hzx)
             | (with_reducible apply write_run (x := .tmp 13) (y := .tmp 55) (hL := hzx)
                rfl
                rfl
                rfl
                rfl
                intro Wx hwx hlx
                have HS3 := Lib.hid (HS2.out.aside hgx hbx hwx)
                clear hwx hzx hbx hgx)
             | (with_reducible refine load_run ?_ (.tmp 13) ?_ ?_ hlx ?_
                rfl
                rfl
                rfl)
             | (with_reducible apply write_run (x := .tmp 7) (y := .tmp 57) (hL := HS3.out.lies)
                rfl
                rfl
                rfl
                rfl
                intro Wy hwy hly
                have HS4 := Lib.hid (HS3.out.wrote hwy hly)
                have HG4 := Lib.hid HS4.out.fails
                clear hwy hly hlx HS3))
            go_roundw
            case rel => exact ⟨_, _, _, _, i + 1, _, rfl, by go_num, _, rfl, by simp, HS4.out, HN.out⟩
            case measure => simp only [intOf]; omega
          | done hl hb hk =>
            have hb0 : b = false := by cases b <;> simp_all
            subst hb0 hl
            have HC := Lib.hid hc
            clear HST HGo
            go_wp2_with (first
             | (with_reducible refine lay_run ?_ ?_ ?_
                rfl
                rfl
                intro gx Vx hgx hbx hzx)
             | (with_reducible apply write_run (x := .tmp 13) (y := .tmp 55) (hL := hzx)
                rfl
                rfl
                rfl
                rfl
                intro Wx hwx hlx
                have HS3 := Lib.hid (HS2.out.aside hgx hbx hwx)
                clear hwx hzx hbx hgx)
             | (with_reducible refine load_run ?_ (.tmp 13) ?_ ?_ hlx ?_
                rfl
                rfl
                rfl)
             | (with_reducible apply write_run (x := .tmp 7) (y := .tmp 57) (hL := HS3.out.lies)
                rfl
                rfl
                rfl
                rfl
                intro Wy hwy hly
                have HS4 := Lib.hid (HS3.out.wrote hwy hly)
                have HG4 := Lib.hid HS4.out.fails
                clear hwy hly hlx HS3)
             | (with_reducible refine load_task ?_ (.tmp 3) ?_ ?_ HS4.out.box.lies ?_
                rfl
                rfl
                rfl))
            have HE := Lib.hid (HC.out.ends hk)
            obtain ⟨x1, x2, x3⟩ := HE.out
            have KP := Lib.hid (fun W => partsN h.fine h.ways h.dC (by have := h.C; omega) W)
            have HPS := Lib.hid (pl_small h.fine h.ways h.dC (by have := h.C; omega))
            have KX := Lib.hid (fun W => extra h.fine W)
            have LP := Lib.hid (length_pl s t.Cost d n)
            have hn5 := h.nums.2.2.2.2.2.1
            obtain ⟨s1, s2⟩ := h.sum
            obtain ⟨z1, z2⟩ := h.extra
            have hTB := HS4.out.box
            with_reducible refine (KP.out _).mono ?_
            rintro en w5 ⟨gp, cp, rfl, hgp, hcp, hrp, hb5⟩
            have HS5 := Lib.hid (HS4.out.tells hb5)
            have cSum := sumG (v := (pl s t.Cost d n).sum) LP.out (by omega) HPS.out hcp hrp rfl
            clear hb5 hrp hcp hgp hTB
            go_wp2_with (fail)
            with_reducible refine cSum.mono ?_
            rintro en w6 ⟨rfl, hb6⟩
            have HS6 := Lib.hid (HS5.out.tells hb6)
            clear hb6 cSum HS5
            obtain ⟨y0, y1, y2, y3, y4, y5, y6, y7, y8, y9, y10⟩ := HS6.out.box.cells
            have y15 := HS6.out.fails
            have k_y0 := cell_regrown y0
            have k_y1 := cell_regrown y1
            have k_y2 := cell_regrown y2
            have k_y3 := cell_regrown y3
            have k_y4 := cell_regrown y4
            have k_y5 := cell_regrown y5
            have k_y6 := cell_regrown y6
            have k_y7 := cell_regrown y7
            have k_y8 := cell_regrown y8
            have k_y9 := cell_regrown y9
            have k_y10 := cell_regrown y10
            have k_y15 := cell_regrown y15
            simp only [aggK] at KX
            generalize (pl s t.Cost d n).sum = S0 at *
            generalize extraV t = E at *
            have cX := fun dd os => Calls.regrown_of (w := w6) (d := dd) (os := os) (v := .int .i64 E) (KX.out _)
            have f1 : decide (f ≤ j) = true := decide_eq_true x1
            have f2 : decide ((i : Int) + 1 ≤ S0 + f * E) = true := decide_eq_true x2
            by_cases hf0 : f = 0
            · subst hf0
              have f4 : ((i : Int) + 1 == S0) = true := by simp [x3 rfl]
              have f5 : (i : Int) + 1 = S0 := x3 rfl
              go_wp2
              refine wp_region_quiet_below (by kernel_rfl) (by kernel_rfl) ?_
              repeat (go_big_quiet_step (with_reducible first | exact cX _ _))
              refine wpQuiet_nil ?_
              intro _ hw'
              obtain ⟨⟨dq, osq⟩, hw''⟩ := hw'
              subst hw''
              have HS7 := Lib.hid (HS6.out.tells (below_regrown w6 dq osq))
              go_wp2
              go_ret
              exact ⟨rfl, HS7.out.below⟩
            · have f3 : decide (0 < f) = true := decide_eq_true (by omega)
              go_wp2
              refine wp_region_quiet_below (by kernel_rfl) (by kernel_rfl) ?_
              repeat (go_big_quiet_step (with_reducible first | exact cX _ _))
              refine wpQuiet_nil ?_
              intro _ hw'
              obtain ⟨⟨dq, osq⟩, hw''⟩ := hw'
              subst hw''
              have HS7 := Lib.hid (HS6.out.tells (below_regrown w6 dq osq))
              go_wp2
              go_ret
              exact ⟨rfl, HS7.out.below⟩
          | passed hl hb hk =>
            have HN : Hid (CostI t d s n N (k + 1) (lenV t s d (k + 1)) false f (i + 1) (j)) := by
              have x := HGo.out _ _ _ _ _ HST.out (by omega)
              skip
              exact x
            have q9 : decide ((1000000 : Int) < (i : Int) + 1) = false := decide_eq_false (by omega)
            clear HST HGo
            go_wp2_with (first
             | (with_reducible refine lay_run ?_ ?_ ?_
                rfl
                rfl
                intro gx Vx hgx hbx hzx)
             | (with_reducible apply write_run (x := .tmp 13) (y := .tmp 55) (hL := hzx)
                rfl
                rfl
                rfl
                rfl
                intro Wx hwx hlx
                have HS3 := Lib.hid (HS2.out.aside hgx hbx hwx)
                clear hwx hzx hbx hgx)
             | (with_reducible refine load_run ?_ (.tmp 13) ?_ ?_ hlx ?_
                rfl
                rfl
                rfl)
             | (with_reducible apply write_run (x := .tmp 7) (y := .tmp 57) (hL := HS3.out.lies)
                rfl
                rfl
                rfl
                rfl
                intro Wy hwy hly
                have HS4 := Lib.hid (HS3.out.wrote hwy hly)
                have HG4 := Lib.hid HS4.out.fails
                clear hwy hly hlx HS3))
            go_roundw
            case rel => exact ⟨_, _, _, _, i + 1, _, rfl, by go_num, _, rfl, by simp, HS4.out, HN.out⟩
            case measure => simp only [intOf]; omega
end Go.Proofs.Ytbofpbochgoafaa
