/- What is proved: of whatever three small numbers the program's checked sums and products don't hang on order and aren't over, and a quotient rounded up times its divisor is the number, or less than the divisor more (promise P1.3); no condition. -/
import Derived.Test.YtibmlkcbhlomhaaRows
import Derived.Test.YtibmlkcbhlomhaaAwake
import Derived.ChangeOld
import Derived.Below
import Derived.WalkKit
import Derived.ProofKit
import Derived.OpenShut
import Derived.ShutString
namespace Go.Proofs.Ytibmlkcbhlomhaa.tickRules
open Go.ChangeShapes Go.WideShapes Go.ChangeAt Go.RowKit
open Go.ChangeMaps (open_string shut_string)
set_option linter.unusedVariables false

theorem own : ownKnob Try.prog.godebug = none := by kernel_rfl
theorem bounds {n : Int} (h : (Lit.int .u32 n).wf = true) : 0 ≤ n ∧ n ≤ 4294967295 := by
  have := bounds_u32 h; omega
theorem Mul_yes (a b : Int) (w : World) (h0 : 0 ≤ a) (h1 : 0 ≤ b) (h2 : a ≤ 4611686018427387904) (h3 : b ≤ 4611686018427387904) (h4 : a * b ≤ 4611686018427387904) :
    Calls Try.prog 11 #[.int .i64 a, .int .i64 b] w (Ans (a * b) true w) := by
  have h := Mul_any a b w; rw [(Tk.mul_yes h0 h1 h2 h3 h4).1, (Tk.mul_yes h0 h1 h2 h3 h4).2] at h; exact h
theorem Add_yes (a b : Int) (w : World) (h0 : 0 ≤ a) (h1 : 0 ≤ b) (h2 : a + b ≤ 4611686018427387904) :
    Calls Try.prog 10 #[.int .i64 a, .int .i64 b] w (Ans (a + b) true w) := by
  have h := Add_any a b w; rw [(Tk.add_yes h0 h1 h2).1, (Tk.add_yes h0 h1 h2).2] at h; exact h
theorem Tk.ceil_times {a b : Int} (h0 : 0 ≤ a) (hb : 0 < b) : 0 ≤ (a + b - 1) / b * b ∧ a ≤ (a + b - 1) / b * b ∧ (a + b - 1) / b * b < a + b := by
  have e := Int.mul_ediv_add_emod (a + b - 1) b
  have l := Int.emod_lt_of_pos (a + b - 1) hb
  have m := Int.emod_nonneg (a + b - 1) (show b ≠ 0 by omega)
  rw [Int.mul_comm] at e
  omega
theorem walk (a0 : Int) (a1 : Int) (a2 : Int) (w0 : (Lit.int .u32 a0).wf = true) (w1 : (Lit.int .u32 a1).wf = true) (w2 : (Lit.int .u32 a2).wf = true) (w : World) :
    Calls Try.prog 6 #[.int .u32 a0, .int .u32 a1, .int .u32 a2] w fun e w' => e = .returned (.bool true) ∧ Below w.heap.size w w' := by
  obtain ⟨x0, x1⟩ := bounds w0
  obtain ⟨b0, b1⟩ := bounds w1
  obtain ⟨c0, c1⟩ := bounds w2
  clear w0 w1 w2
  have y0 : 0 ≤ a1 % 1073741824 := by omega
  have y1 : a1 % 1073741824 ≤ 1073741823 := by omega
  generalize hy : a1 % 1073741824 = y at y0 y1
  obtain ⟨p0, p1⟩ := prod_le x0 y0 x1 y1
  simp only [Int.reduceMul] at p1
  have pc : y * a0 = a0 * y := Int.mul_comm _ _
  have sc : y + a0 = a0 + y := Int.add_comm _ _
  have HY := Lib.hid hy
  clear hy
  by_cases hz : a2 = 0
  · have HC := Lib.hid (Tk.ceil_no (a := a0) (b := a2) (by omega))
    have k0 : (a2 == 0) = true := by simp; exact hz
    have HZ := Lib.hid hz
    clear hz
    go_enter Try.func6, Try.ntmps6
    go_wp2_with (fail)
    refine (awake_any _).mono ?_
    rintro e w1 ⟨rfl, hb⟩
    have hy := HY.out
    go_wp2_with (first | (go_at_call 11; refine (Mul_yes _ _ _ (by omega) (by omega) (by omega) (by omega) (by omega)).mono ?_; rintro e w' ⟨rfl, rfl⟩) | (go_at_call 10; refine (Add_yes _ _ _ (by omega) (by omega) (by omega)).mono ?_; rintro e w' ⟨rfl, rfl⟩) | (go_at_call 12; refine (Ceil_any _ _ _).mono ?_; rintro e w' ⟨rfl, rfl⟩; rw [HC.out.1, HC.out.2]))
    go_ret
    exact ⟨rfl, hb⟩
  · have hz0 : 0 < a2 := by omega
    have HC := Lib.hid (Tk.ceil_yes x0 (show a0 ≤ 4611686018427387904 by omega) hz0 (by omega))
    have k0 : (a2 == 0) = false := by simp; exact hz
    obtain ⟨d0, d1, d2⟩ := Tk.ceil_times x0 hz0
    clear hz
    generalize (a0 + a2 - 1) / a2 = d at HC d0 d1 d2
    have k1 : decide (d * a2 - a0 < a2) = true := by simp; omega
    go_enter Try.func6, Try.ntmps6
    go_wp2_with (fail)
    refine (awake_any _).mono ?_
    rintro e w1 ⟨rfl, hb⟩
    have hy := HY.out
    go_wp2_with (first | (go_at_call 11; refine (Mul_yes _ _ _ (by omega) (by omega) (by omega) (by omega) (by omega)).mono ?_; rintro e w' ⟨rfl, rfl⟩) | (go_at_call 10; refine (Add_yes _ _ _ (by omega) (by omega) (by omega)).mono ?_; rintro e w' ⟨rfl, rfl⟩) | (go_at_call 12; refine (Ceil_any _ _ _).mono ?_; rintro e w' ⟨rfl, rfl⟩; rw [HC.out.1, HC.out.2]))
    go_ret
    exact ⟨rfl, hb⟩

set_option maxRecDepth 100000 in
theorem lifted (os : Os) (started : os.Started) (H : Type) (enc : TypeId × Value → H) :
    ReturnsInHanded {} Try.checked os 6 .any (Rows.tickRulesSpec.pre6 enc Try.prog Try.f6 Rows.tickRulesRow.domain false) (Rows.tickRulesSpec.post enc Try.prog Try.f6 false true false false) := by
  refine returnsInHanded_of_change (C := Try.checked) own started (by kernel_rfl) Try.func6
    (ChangeSpec.witness6 (enc := enc) (C := Try.checked) false ⟨#[], #[.int .u32 0, .int .u32 0, .int .u32 0], []⟩ 8 (by kernel_rfl) (by kernel_rfl) (by kernel_rfl) (by kernel_rfl)) ?_
  intro W base args ds gs before hval0 hW hcnd _
  have hval : ∀ (j : Nat) t v, Try.f6.params[j]? = some t → args[j]? = some v → Value.okWide Try.prog W .any base t v := hval0
  have hW' := hW
  obtain ⟨p, q, hA0, hV, rfl, hfz, hnd⟩ := hW
  have hA : DataW.TrodAll enc Try.prog W 0 (fun _ => true) true Try.f6.params.toList args.toList ds p := hA0
  rw [Try.params6] at hA hval
  obtain ⟨v0, vs0, d0, ds0, p0, q0, hargs, rfl, rfl, h0, r0⟩ := trodAll_cons hA
  obtain ⟨v1, vs1, d1, ds1, p1, q1, rfl, rfl, rfl, h1, r1⟩ := trodAll_cons r0
  obtain ⟨v2, vs2, d2, ds2, p2, q2, rfl, rfl, rfl, h2, r2⟩ := trodAll_cons r1
  obtain ⟨rfl, rfl, rfl⟩ := trodAll_nil r2
  obtain rfl : args = #[v0, v1, v2] := by cases args; simp_all
  obtain ⟨rfl, rfl⟩ := trodVars_none hV
  obtain ⟨a0, rfl, rfl, rfl, w0⟩ := open_int Try.underlying33 (hval 0 33 v0 rfl rfl) h0
  obtain ⟨a1, rfl, rfl, rfl, w1⟩ := open_int Try.underlying33 (hval 1 33 v1 rfl rfl) h1
  obtain ⟨a2, rfl, rfl, rfl, w2⟩ := open_int Try.underlying33 (hval 2 33 v2 rfl rfl) h2
  clear hA0 hval0
  simp only [List.append_nil] at hW'
  refine (walk a0 a1 a2 w0 w1 w2 W).mono fun e W' ⟨he, hg⟩ => ?_
  subst he
  exact ⟨_, rfl, _, _, _, [], [], [], hW', trodAll_mk1 (shut_bool Try.underlying4 _), (trodAll_cons_mk (shut_int Try.underlying33 w0) (trodAll_cons_mk (shut_int Try.underlying33 w1) (trodAll_cons_mk (shut_int Try.underlying33 w2) trodAll_mk0))), rfl, hg.frame _, fun h => by cases h⟩

theorem over : Rows.tickRulesRow.holds Try.pinned (OpenSpec.ofChange Rows.tickRulesSpec) :=
  OpenClaim.holds_of_wide 6 Try.f6 rfl rfl rfl rfl rfl rfl rfl ⟨rfl, rfl, rfl, rfl, rfl⟩ rfl rfl rfl rfl rfl (by kernel_rfl) Try.func6 (by kernel_rfl)
    (of_decide_eq_true (by kernel_rfl)) (by unfold Func.isWrapper; first | (rw [if_pos (by decide +kernel)]; kernel_rfl) | (rw [if_neg (by decide +kernel)]; exact ⟨rfl, rfl⟩))
    (fun os started H enc _ => lifted os started H enc)

theorem proved : Rows.TickRulesSaid :=
  over
#print axioms proved
end Go.Proofs.Ytibmlkcbhlomhaa.tickRules
namespace Go.Proofs.Ytibmlkcbhlomhaa
theorem tickRules_holds : Rows.TickRulesSaid := tickRules.proved
end Go.Proofs.Ytibmlkcbhlomhaa
