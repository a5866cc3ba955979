/- What is proved: of whatever two small numbers the program's least common multiple doesn't hang on order, is a multiple of both, with itself a number has itself, with a multiple of it that, and below it there is none (promise P1.2); no condition. -/
import Derived.Test.YtibmlkcbhlomhaaRows
import Derived.Test.YtibmlkcbhlomhaaWhole
import Derived.ChangeOld
import Derived.Below
import Derived.WalkKit
import Derived.ProofKit
import Derived.OpenShut
import Derived.ShutString
namespace Go.Proofs.Ytibmlkcbhlomhaa.tickCommons
open Go.ChangeShapes Go.WideShapes Go.ChangeAt Go.RowKit
open Go.ChangeMaps (open_string shut_string)
set_option linter.unusedVariables false

theorem own : ownKnob Try.prog.godebug = none := by kernel_rfl
theorem vals {a b v : Int} (ha : 0 < a) (ha1 : a ≤ 4611686018427387904) (hb : 0 < b) (hb1 : b ≤ 4611686018427387904) (e : a / (Int.gcd a b : Int) * b = v) (hv : v ≤ 4611686018427387904) :
    (Tk.lcmB a b 4611686018427387904 = true ∧ Tk.lcmV a b 4611686018427387904 = v) ∧ Tk.lcmW a b = v := by
  have f : Tk.lcmF a b = true := by
    unfold Tk.lcmF Tk.mulB
    simp only [decide_eq_true_eq]
    exact ⟨Int.ediv_nonneg (Int.le_of_lt ha) (Int.le_of_lt (gcd_pos a b ha)), Int.le_of_lt hb, Int.le_trans (Int.ediv_le_self _ (Int.le_of_lt ha)) ha1, hb1, by rw [e]; exact hv⟩
  have w : Tk.lcmW a b = v := by rw [Tk.lcm_is f, e]
  have := Tk.lcm_fits (most := 4611686018427387904) (Tk.lcm_ok ⟨ha, ha1, hb, hb1⟩) f (by rw [w]; exact hv)
  rw [w] at this
  exact ⟨this, w⟩
theorem turned {x y : Int} (hx : 0 < x) : y / (Int.gcd y x : Int) * x = x / (Int.gcd x y : Int) * y := by
  obtain ⟨c, hc⟩ := Int.gcd_dvd_right x y
  obtain ⟨d, hd⟩ := Int.gcd_dvd_left x y
  have g0 := Int.ne_of_gt (gcd_pos x y hx)
  rw [Int.gcd_comm y x]
  rw [Tk.parts_of x y _ c d g0 hc hd, Tk.parts_of y x _ d c g0 hd hc]
  generalize ((Int.gcd x y : Nat) : Int) = g at *
  subst hc hd
  rw [Int.mul_assoc, Int.mul_assoc, Int.mul_comm c d]
theorem alone {x y : Int} (hx : 0 < x) : x / (Int.gcd x (x * y) : Int) * (x * y) = x * y := by
  have : ((Int.gcd x (x * y) : Nat) : Int) = x := Int.gcd_eq_left (Int.le_of_lt hx) (Int.dvd_mul_right x y)
  rw [this, Int.ediv_self (by omega), Int.one_mul]
theorem less {x y : Int} (hx : 0 < x) (hy : 0 < y) : 0 < x / (Int.gcd x y : Int) * y ∧ x / (Int.gcd x y : Int) * y ≤ x * y := by
  have g := gcd_pos x y hx
  have q := Int.ediv_le_self (Int.gcd x y : Int) (Int.le_of_lt hx)
  have p : 0 < x / (Int.gcd x y : Int) := Int.ediv_pos_of_pos_of_dvd hx (Int.le_of_lt g) (Int.gcd_dvd_left x y)
  exact ⟨Int.mul_pos p hy, Int.mul_le_mul_of_nonneg_right q (Int.le_of_lt hy)⟩
theorem self {x : Int} (hx : 0 < x) : x / (Int.gcd x x : Int) * x = x := by
  have : ((Int.gcd x x : Nat) : Int) = x := Int.gcd_eq_left (Int.le_of_lt hx) (Int.dvd_refl x)
  rw [this, Int.ediv_self (by omega), Int.one_mul]
theorem Lcm_is (a b most v : Int) (t : Bool) (w : World) (h : Tk.lcmB a b most = t ∧ Tk.lcmV a b most = v) :
    Calls Try.prog 17 #[.int .i64 a, .int .i64 b, .int .i64 most] w (AnsD v t w) := by
  have k := Lcm_any a b most w; rw [h.1, h.2] at k; exact k
set_option maxHeartbeats 2000000 in
theorem walk (a0 : Int) (a1 : Int) (w0 : (Lit.int .u32 a0).wf = true) (w1 : (Lit.int .u16 a1).wf = true) (w : World) :
    Calls Try.prog 8 #[.int .u32 a0, .int .u16 a1] w fun e w' => e = .returned (.bool true) ∧ Below w.heap.size w w' := by
  obtain ⟨x0, x1⟩ : 0 ≤ a0 ∧ a0 ≤ 4294967295 := by have := bounds_u32 w0; omega
  obtain ⟨y0, y1⟩ : 0 ≤ a1 ∧ a1 ≤ 65535 := by have := bounds_u16 w1; omega
  clear w0 w1
  by_cases hx : a0 = 0
  · subst hx
    go_enter Try.func8, Try.ntmps8
    go_wp2_with (fail)
    refine (awake_any _).mono ?_
    rintro e w1 ⟨rfl, hb⟩
    go_wp2_with (fail)
    refine (awake_any _).mono ?_
    rintro e w2 ⟨rfl, hb2⟩
    go_wp2
    go_ret
    exact ⟨rfl, hb.trans (hb2.mono hb.size)⟩
  · have kx : (a0 == 0) = false := by simpa using hx
    have x2 : 0 < a0 := by omega
    clear hx
    by_cases hy : a1 = 0
    · subst hy
      go_enter Try.func8, Try.ntmps8
      go_wp2_with (fail)
      refine (awake_any _).mono ?_
      rintro e w1 ⟨rfl, hb⟩
      go_wp2_with (fail)
      refine (awake_any _).mono ?_
      rintro e w2 ⟨rfl, hb2⟩
      go_wp2
      go_ret
      exact ⟨rfl, hb.trans (hb2.mono hb.size)⟩
    · have ky : (a1 == 0) = false := by simpa using hy
      have y2 : 0 < a1 := by omega
      clear hy
      obtain ⟨p0, p1⟩ := prod_le x0 y0 x1 y1
      simp only [Int.reduceMul] at p1
      have p2 : 0 < a0 * a1 := Int.mul_pos x2 y2
      obtain ⟨l0, l1⟩ := less x2 y2
      have m0 := Tk.lcm_mod a0 a1 x2
      have m1 : a0 / (Int.gcd a0 a1 : Int) * a1 % a1 = 0 := Int.mul_emod_left _ _
      have V1 := vals x2 (by omega) y2 (by omega) rfl (show a0 / (Int.gcd a0 a1 : Int) * a1 ≤ 4611686018427387904 by omega)
      have V2 := Lib.hid (vals y2 (by omega) x2 (by omega) (turned (y := a1) x2) (show a0 / (Int.gcd a0 a1 : Int) * a1 ≤ 4611686018427387904 by omega)).1
      have V3 := Lib.hid (vals x2 (by omega) x2 (by omega) (self x2) (by omega)).1
      have V4 := Lib.hid (vals x2 (by omega) p2 (by omega) (alone (y := a1) x2) (by omega)).1
      have V5 := Lib.hid (Tk.lcm_above (a := a0) (b := a1) (most := a0 / (Int.gcd a0 a1 : Int) * a1 - 1) (by rw [V1.2]; omega))
      have V1 := Lib.hid V1.1
      generalize a0 / (Int.gcd a0 a1 : Int) * a1 = L at *
      generalize hP : a0 * a1 = P at *
      have HP := Lib.hid hP
      clear hP
      go_enter Try.func8, Try.ntmps8
      go_wp2_with (fail)
      refine (awake_any _).mono ?_
      rintro e w1 ⟨rfl, hb⟩
      go_wp2_with (fail)
      refine (Lcm_is _ _ _ _ _ _ V1.out).mono ?_
      rintro e w' ⟨rfl, n1, rfl⟩
      go_wp2_with (fail)
      refine (Lcm_is _ _ _ _ _ _ V2.out).mono ?_
      rintro e w' ⟨rfl, n2, rfl⟩
      go_wp2_with (fail)
      refine (Lcm_is _ _ _ _ _ _ V3.out).mono ?_
      rintro e w' ⟨rfl, n3, rfl⟩
      have hP := HP.out
      go_wp2_with (fail)
      refine (Lcm_is _ _ _ _ _ _ V4.out).mono ?_
      rintro e w' ⟨rfl, n4, rfl⟩
      go_wp2_with (fail)
      refine (Lcm_is _ _ _ _ _ _ V5.out).mono ?_
      rintro e w' ⟨rfl, n5, rfl⟩
      go_wp2
      go_ret
      exact ⟨rfl, below_drewN hb _⟩

set_option maxRecDepth 100000 in
theorem lifted (os : Os) (started : os.Started) (H : Type) (enc : TypeId × Value → H) :
    ReturnsInHanded {} Try.checked os 8 .any (Rows.tickCommonsSpec.pre6 enc Try.prog Try.f8 Rows.tickCommonsRow.domain false) (Rows.tickCommonsSpec.post enc Try.prog Try.f8 false true false false) := by
  refine returnsInHanded_of_change (C := Try.checked) own started (by kernel_rfl) Try.func8
    (ChangeSpec.witness6 (enc := enc) (C := Try.checked) false ⟨#[], #[.int .u32 0, .int .u16 0], []⟩ 8 (by kernel_rfl) (by kernel_rfl) (by kernel_rfl) (by kernel_rfl)) ?_
  intro W base args ds gs before hval0 hW hcnd _
  have hval : ∀ (j : Nat) t v, Try.f8.params[j]? = some t → args[j]? = some v → Value.okWide Try.prog W .any base t v := hval0
  have hW' := hW
  obtain ⟨p, q, hA0, hV, rfl, hfz, hnd⟩ := hW
  have hA : DataW.TrodAll enc Try.prog W 0 (fun _ => true) true Try.f8.params.toList args.toList ds p := hA0
  rw [Try.params8] at hA hval
  obtain ⟨v0, vs0, d0, ds0, p0, q0, hargs, rfl, rfl, h0, r0⟩ := trodAll_cons hA
  obtain ⟨v1, vs1, d1, ds1, p1, q1, rfl, rfl, rfl, h1, r1⟩ := trodAll_cons r0
  obtain ⟨rfl, rfl, rfl⟩ := trodAll_nil r1
  obtain rfl : args = #[v0, v1] := by cases args; simp_all
  obtain ⟨rfl, rfl⟩ := trodVars_none hV
  obtain ⟨a0, rfl, rfl, rfl, w0⟩ := open_int Try.underlying33 (hval 0 33 v0 rfl rfl) h0
  obtain ⟨a1, rfl, rfl, rfl, w1⟩ := open_int Try.underlying36 (hval 1 36 v1 rfl rfl) h1
  clear hA0 hval0
  simp only [List.append_nil] at hW'
  refine (walk a0 a1 w0 w1 W).mono fun e W' ⟨he, hg⟩ => ?_
  subst he
  exact ⟨_, rfl, _, _, _, [], [], [], hW', trodAll_mk1 (shut_bool Try.underlying4 _), (trodAll_cons_mk (shut_int Try.underlying33 w0) (trodAll_cons_mk (shut_int Try.underlying36 w1) trodAll_mk0)), rfl, hg.frame _, fun h => by cases h⟩

theorem over : Rows.tickCommonsRow.holds Try.pinned (OpenSpec.ofChange Rows.tickCommonsSpec) :=
  OpenClaim.holds_of_wide 8 Try.f8 rfl rfl rfl rfl rfl rfl rfl ⟨rfl, rfl, rfl, rfl, rfl⟩ rfl rfl rfl rfl rfl (by kernel_rfl) Try.func8 (by kernel_rfl)
    (of_decide_eq_true (by kernel_rfl)) (by unfold Func.isWrapper; first | (rw [if_pos (by decide +kernel)]; kernel_rfl) | (rw [if_neg (by decide +kernel)]; exact ⟨rfl, rfl⟩))
    (fun os started H enc _ => lifted os started H enc)

theorem proved : Rows.TickCommonsSaid :=
  over
#print axioms proved
end Go.Proofs.Ytibmlkcbhlomhaa.tickCommons
namespace Go.Proofs.Ytibmlkcbhlomhaa
theorem tickCommons_holds : Rows.TickCommonsSaid := tickCommons.proved
end Go.Proofs.Ytibmlkcbhlomhaa
