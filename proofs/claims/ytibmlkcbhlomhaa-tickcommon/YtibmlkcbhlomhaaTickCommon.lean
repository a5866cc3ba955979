/- What is proved: of whatever two numbers and limit the program's least common multiple is the document's own, and is a multiple of both, or it is over (promise P1.2); no condition. -/
import Derived.Test.YtibmlkcbhlomhaaRows
import Derived.Test.YtibmlkcbhlomhaaWhole
import Derived.ChangeOld
import Derived.Below
import Derived.WalkKit
import Derived.ProofKit
import Derived.OpenShut
import Derived.ShutString
namespace Go.Proofs.Ytibmlkcbhlomhaa.tickCommon
open Go.ChangeShapes Go.WideShapes Go.ChangeAt Go.RowKit
open Go.ChangeMaps (open_string shut_string)
set_option linter.unusedVariables false

theorem own : ownKnob Try.prog.godebug = none := by kernel_rfl
set_option maxHeartbeats 2000000 in
theorem walk (a0 : Int) (a1 : Int) (a2 : Int) (w0 : (Lit.int .i64 a0).wf = true) (w1 : (Lit.int .i64 a1).wf = true) (w2 : (Lit.int .i64 a2).wf = true) (w : World) :
    Calls Try.prog 5 #[.int .i64 a0, .int .i64 a1, .int .i64 a2] w fun e w' => e = .returned (.bool true) ∧ Below w.heap.size w w' := by
  by_cases hok : 0 < a0 ∧ a0 ≤ 4611686018427387904 ∧ 0 < a1 ∧ a1 ≤ 4611686018427387904
  · have HO := Lib.hid (Tk.lcm_ok hok)
    obtain ⟨hz, x1, hy, y1⟩ := hok
    have k0 : (a0 == 0) = false := by simp; omega
    have k1 : (a1 == 0) = false := by simp; omega
    have gp := gcd_pos a0 a1 hz
    have g0 : ((Int.gcd a0 a1 : Nat) : Int) ≤ 4611686018427387904 := by
      have := Int.le_of_dvd hz (Int.gcd_dvd_left a0 a1); omega
    have HF : Hid (Tk.mulB (a0 / (Int.gcd a0 a1 : Int)) a1 = Tk.lcmF a0 a1) := rfl
    have HW : Hid (Tk.mulV (a0 / (Int.gcd a0 a1 : Int)) a1 = Tk.lcmW a0 a1) := rfl
    have D := Lib.hid (refGcd_int a0 a1 · hz hy x1 y1)
    generalize ((Int.gcd a0 a1 : Nat) : Int) = g at gp g0 HF HW D
    have gn : (g == 0) = false := by simp; omega
    have q0 : 0 ≤ a0 / g := Int.ediv_nonneg (by omega) (Int.le_of_lt gp)
    have q1 : a0 / g ≤ 4611686018427387904 := Int.le_trans (Int.ediv_le_self _ (by omega)) x1
    clear w0 w1 w2
    cases hF : Tk.lcmF a0 a1
    · have H := Lib.hid (Tk.lcm_over a2 hF)
      have HF2 := Lib.hid hF
      clear hF
      go_enter Try.func5, Try.ntmps5
      go_wp2_with (fail)
      refine (awake_any _).mono ?_
      rintro e w1 ⟨rfl, hb⟩
      go_wp2_with (first | (go_at_call 17; refine (Lcm_any _ _ _ _).mono ?_; rintro e w' ⟨rfl, n, rfl⟩; rw [H.out.1, H.out.2]) | (go_at_call 18; refine (Time_yes _ _ (by omega) (by omega)).mono ?_; rintro e w' ⟨rfl, rfl⟩) | (go_at_call 19; refine (D.out _).mono ?_; rintro e w' ⟨rfl, rfl⟩) | (go_at_call 14; refine (refMul_any _ _ _).mono ?_; rintro e w' ⟨rfl, rfl⟩; rw [HF.out, HW.out, HF2.out]))
      go_ret
      exact ⟨rfl, below_drewN hb _⟩
    · obtain ⟨v0, v1, v2, v3⟩ := Tk.whole hz hF
      have HF2 := Lib.hid hF
      clear hF
      by_cases hm : Tk.lcmW a0 a1 ≤ a2
      · have H := Lib.hid (Tk.lcm_fits HO.out HF2.out hm)
        generalize Tk.lcmW a0 a1 = W at HW hm H v0 v1 v2 v3
        have hd : decide (a2 < W) = false := by simp; omega
        go_enter Try.func5, Try.ntmps5
        go_wp2_with (fail)
        refine (awake_any _).mono ?_
        rintro e w1 ⟨rfl, hb⟩
        go_wp2_with (first | (go_at_call 17; refine (Lcm_any _ _ _ _).mono ?_; rintro e w' ⟨rfl, n, rfl⟩; rw [H.out.1, H.out.2]) | (go_at_call 18; refine (Time_yes _ _ (by omega) (by omega)).mono ?_; rintro e w' ⟨rfl, rfl⟩) | (go_at_call 19; refine (D.out _).mono ?_; rintro e w' ⟨rfl, rfl⟩) | (go_at_call 14; refine (refMul_any _ _ _).mono ?_; rintro e w' ⟨rfl, rfl⟩; rw [HF.out, HW.out, HF2.out]))
        go_ret
        exact ⟨rfl, below_drewN hb _⟩
      · have H := Lib.hid (Tk.lcm_above (Int.not_le.1 hm))
        generalize Tk.lcmW a0 a1 = W at HW hm v0 v1 v2 v3
        go_enter Try.func5, Try.ntmps5
        go_wp2_with (fail)
        refine (awake_any _).mono ?_
        rintro e w1 ⟨rfl, hb⟩
        go_wp2_with (first | (go_at_call 17; refine (Lcm_any _ _ _ _).mono ?_; rintro e w' ⟨rfl, n, rfl⟩; rw [H.out.1, H.out.2]) | (go_at_call 18; refine (Time_yes _ _ (by omega) (by omega)).mono ?_; rintro e w' ⟨rfl, rfl⟩) | (go_at_call 19; refine (D.out _).mono ?_; rintro e w' ⟨rfl, rfl⟩) | (go_at_call 14; refine (refMul_any _ _ _).mono ?_; rintro e w' ⟨rfl, rfl⟩; rw [HF.out, HW.out, HF2.out]))
        go_ret
        exact ⟨rfl, below_drewN hb _⟩
  · have H := Lib.hid (Tk.lcm_bad a2 hok)
    clear w0 w1 w2
    by_cases ha : 0 ≤ a0 ∧ a0 ≤ 4611686018427387904
    · obtain ⟨x0, x1⟩ := ha
      by_cases hb : 0 ≤ a1 ∧ a1 ≤ 4611686018427387904
      · obtain ⟨y0, y1⟩ := hb
        have hz : a0 = 0 ∨ (0 < a0 ∧ a1 = 0) := by omega
        clear hok
        rcases hz with rfl | ⟨hz, rfl⟩
        · go_enter Try.func5, Try.ntmps5
          go_wp2_with (fail)
          refine (awake_any _).mono ?_
          rintro e w1 ⟨rfl, hb⟩
          go_wp2_with (first | (go_at_call 17; refine (Lcm_any _ _ _ _).mono ?_; rintro e w' ⟨rfl, n, rfl⟩; rw [H.out.1, H.out.2]) | (go_at_call 18; refine (Time_yes _ _ (by omega) (by omega)).mono ?_; rintro e w' ⟨rfl, rfl⟩))
          go_ret
          exact ⟨rfl, below_drewN hb _⟩
        · have k0 : (a0 == 0) = false := by simp; omega
          go_enter Try.func5, Try.ntmps5
          go_wp2_with (fail)
          refine (awake_any _).mono ?_
          rintro e w1 ⟨rfl, hb⟩
          go_wp2_with (first | (go_at_call 17; refine (Lcm_any _ _ _ _).mono ?_; rintro e w' ⟨rfl, n, rfl⟩; rw [H.out.1, H.out.2]) | (go_at_call 18; refine (Time_yes _ _ (by omega) (by omega)).mono ?_; rintro e w' ⟨rfl, rfl⟩))
          go_ret
          exact ⟨rfl, below_drewN hb _⟩
      · clear hok
        go_enter Try.func5, Try.ntmps5
        go_wp2_with (fail)
        refine (awake_any _).mono ?_
        rintro e w1 ⟨rfl, hb⟩
        go_wp2_with (first | (go_at_call 17; refine (Lcm_any _ _ _ _).mono ?_; rintro e w' ⟨rfl, n, rfl⟩; rw [H.out.1, H.out.2]) | (go_at_call 18; first | ((with_reducible refine (Time_yes _ _ x0 x1).mono ?_); rintro e w' ⟨rfl, rfl⟩) | ((with_reducible refine (Time_no _ _ (by omega)).mono ?_); rintro e w' ⟨rfl, rfl⟩)))
        go_ret
        exact ⟨rfl, below_drewN hb _⟩
    · clear hok
      go_enter Try.func5, Try.ntmps5
      go_wp2_with (fail)
      refine (awake_any _).mono ?_
      rintro e w1 ⟨rfl, hb⟩
      go_wp2_with (first | (go_at_call 17; refine (Lcm_any _ _ _ _).mono ?_; rintro e w' ⟨rfl, n, rfl⟩; rw [H.out.1, H.out.2]) | (go_at_call 18; refine (Time_no _ _ (by omega)).mono ?_; rintro e w' ⟨rfl, rfl⟩))
      go_ret
      exact ⟨rfl, below_drewN hb _⟩

set_option maxRecDepth 100000 in
theorem lifted (os : Os) (started : os.Started) (H : Type) (enc : TypeId × Value → H) :
    ReturnsInHanded {} Try.checked os 5 .any (Rows.tickCommonSpec.pre6 enc Try.prog Try.f5 Rows.tickCommonRow.domain false) (Rows.tickCommonSpec.post enc Try.prog Try.f5 false true false false) := by
  refine returnsInHanded_of_change (C := Try.checked) own started (by kernel_rfl) Try.func5
    (ChangeSpec.witness6 (enc := enc) (C := Try.checked) false ⟨#[], #[.int .i64 0, .int .i64 0, .int .i64 0], []⟩ 8 (by kernel_rfl) (by kernel_rfl) (by kernel_rfl) (by kernel_rfl)) ?_
  intro W base args ds gs before hval0 hW hcnd _
  have hval : ∀ (j : Nat) t v, Try.f5.params[j]? = some t → args[j]? = some v → Value.okWide Try.prog W .any base t v := hval0
  have hW' := hW
  obtain ⟨p, q, hA0, hV, rfl, hfz, hnd⟩ := hW
  have hA : DataW.TrodAll enc Try.prog W 0 (fun _ => true) true Try.f5.params.toList args.toList ds p := hA0
  rw [Try.params5] at hA hval
  obtain ⟨v0, vs0, d0, ds0, p0, q0, hargs, rfl, rfl, h0, r0⟩ := trodAll_cons hA
  obtain ⟨v1, vs1, d1, ds1, p1, q1, rfl, rfl, rfl, h1, r1⟩ := trodAll_cons r0
  obtain ⟨v2, vs2, d2, ds2, p2, q2, rfl, rfl, rfl, h2, r2⟩ := trodAll_cons r1
  obtain ⟨rfl, rfl, rfl⟩ := trodAll_nil r2
  obtain rfl : args = #[v0, v1, v2] := by cases args; simp_all
  obtain ⟨rfl, rfl⟩ := trodVars_none hV
  obtain ⟨a0, rfl, rfl, rfl, w0⟩ := open_int Try.underlying3 (hval 0 3 v0 rfl rfl) h0
  obtain ⟨a1, rfl, rfl, rfl, w1⟩ := open_int Try.underlying3 (hval 1 3 v1 rfl rfl) h1
  obtain ⟨a2, rfl, rfl, rfl, w2⟩ := open_int Try.underlying3 (hval 2 3 v2 rfl rfl) h2
  clear hA0 hval0
  simp only [List.append_nil] at hW'
  refine (walk a0 a1 a2 w0 w1 w2 W).mono fun e W' ⟨he, hg⟩ => ?_
  subst he
  exact ⟨_, rfl, _, _, _, [], [], [], hW', trodAll_mk1 (shut_bool Try.underlying4 _), (trodAll_cons_mk (shut_int Try.underlying3 w0) (trodAll_cons_mk (shut_int Try.underlying3 w1) (trodAll_cons_mk (shut_int Try.underlying3 w2) trodAll_mk0))), rfl, hg.frame _, fun h => by cases h⟩

theorem over : Rows.tickCommonRow.holds Try.pinned (OpenSpec.ofChange Rows.tickCommonSpec) :=
  OpenClaim.holds_of_wide 5 Try.f5 rfl rfl rfl rfl rfl rfl rfl ⟨rfl, rfl, rfl, rfl, rfl⟩ rfl rfl rfl rfl rfl (by kernel_rfl) Try.func5 (by kernel_rfl)
    (of_decide_eq_true (by kernel_rfl)) (by unfold Func.isWrapper; first | (rw [if_pos (by decide +kernel)]; kernel_rfl) | (rw [if_neg (by decide +kernel)]; exact ⟨rfl, rfl⟩))
    (fun os started H enc _ => lifted os started H enc)

theorem proved : Rows.TickCommonSaid :=
  over
#print axioms proved
end Go.Proofs.Ytibmlkcbhlomhaa.tickCommon
namespace Go.Proofs.Ytibmlkcbhlomhaa
theorem tickCommon_holds : Rows.TickCommonSaid := tickCommon.proved
end Go.Proofs.Ytibmlkcbhlomhaa
