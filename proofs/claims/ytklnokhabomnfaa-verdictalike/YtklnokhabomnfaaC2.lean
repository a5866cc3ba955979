/- The walk of the statement on whether verdicts are alike. -/
import Derived.Test.YtklnokhabomnfaaAw
import Derived.Test.YtklnokhabomnfaaVo
import Derived.Lib.QuietBelow
import Derived.Deep.DeepCutAuto
namespace Go.Proofs.Ytklnokhabomnfaa
open Go.RowKit

/-- Two verdicts in boxes of the call's own. -/
structure Duo2 (w : World) (ok is : Bool) (i j : Int) (x y : Option Addr) (n m c d : Nat) (W : World) : Prop where
  below : Below w.heap.size w W
  one : Lies W w.heap.size 29 #[.bool ok, .int .i64 i, .slice x n c]
  two : Lies W (w.heap.size + 1) 29 #[.bool is, .int .i64 j, .slice y m d]
theorem Duo2.tells {w : World} {ok is : Bool} {i j : Int} {x y : Option Addr} {n m c d : Nat} {W W' : World} (h : Duo2 w ok is i j x y n m c d W) (hb : Below W.heap.size W W') : Duo2 w ok is i j x y n m c d W' :=
  ⟨h.below.trans (hb.mono h.below.size), h.one.below hb h.one.lt, h.two.below hb h.two.lt⟩
theorem Duo2.made (w : World) (ok is : Bool) (i j : Int) (x y : Option Addr) (n m c d : Nat) : Duo2 w ok is i j x y n m c d ((w.alloc (.cells #[.bool ok, .int .i64 i, .slice x n c] 29)).alloc (.cells #[.bool is, .int .i64 j, .slice y m d] 29)) := by
  refine ⟨(below_new _ _).alloc (by simp) _, (Lies.made _ _ _).alloc _, ?_⟩
  have := Lies.made (w.alloc (.cells #[.bool ok, .int .i64 i, .slice x n c] 29)) 29 #[.bool is, .int .i64 j, .slice y m d]
  simpa using this
set_option maxRecDepth 100000 in
set_option maxHeartbeats 8000000 in
theorem coreAlike (ok is : Bool) (i j : Int) (l l' : List Int) (x y : Option Addr) (c d n m : Nat) {w : World} (hn : l.length = n) (hm : l'.length = m) (hx : Ints w x c l) (hy : Ints w y d l') :
    Calls Try.prog 5 #[.agg #[.bool ok, .int .i64 i, .slice x n c], .agg #[.bool is, .int .i64 j, .slice y m d]] w (Woke w) := by
  have KA := Lib.hid (fun W => awake W)
  have HX := Lib.hid hx
  have HY := Lib.hid hy
  have HB0 := Lib.hid (Duo2.made w ok is i j x y n m c d)
  clear hx hy
  go_enter Try.func5, Try.ntmps5
  go_wp2_with (fail)
  with_reducible refine (KA.out _).mono ?_
  rintro e w1 ⟨rfl, hb1⟩
  have HB1 := Lib.hid (HB0.out.tells hb1)
  clear hb1 HB0
  obtain ⟨v0, v1, v2⟩ := vd_cells HB1.out.one
  obtain ⟨u0, u1, u2⟩ := vd_cells HB1.out.two
  by_cases h1 : 100 < n
  · have t1 : decide (100 < (n : Int)) = true := by simp; omega
    have t1' : decide (100 < n) = true := by simp; omega
    go_wp2_with (fail)
    with_reducible refine (KA.out _).mono ?_
    rintro e w9 ⟨rfl, hb9⟩
    have HB9 := Lib.hid (HB1.out.tells hb9)
    clear hb9
    go_wp2
    go_ret
    exact ⟨rfl, HB9.out.below⟩
  · have t1 : decide (100 < (n : Int)) = false := by simp; omega
    have t1' : decide (100 < n) = false := by simp; omega
    by_cases h2 : 100 < m
    · have t2 : decide (100 < (m : Int)) = true := by simp; omega
      have t2' : decide (100 < m) = true := by simp; omega
      go_wp2_with (fail)
      with_reducible refine (KA.out _).mono ?_
      rintro e w9 ⟨rfl, hb9⟩
      have HB9 := Lib.hid (HB1.out.tells hb9)
      clear hb9
      go_wp2
      go_ret
      exact ⟨rfl, HB9.out.below⟩
    · have t2 : decide (100 < (m : Int)) = false := by simp; omega
      have t2' : decide (100 < m) = false := by simp; omega
      have hbX := fun dd os => HB1.out.below.trans ((below_regrown w1 dd os).mono HB1.out.below.size)
      have c1 := fun dd os => Calls.regrown_of (w := w1) (d := dd) (os := os) (v := .bool (sameV ok is i j l l')) (sameVerdict ok is i j hn hm (by omega) (by omega) (HX.out.tells (hbX dd os)) (HY.out.tells (hbX dd os)))
      have c2 := fun dd os => Calls.regrown_of (w := w1) (d := dd) (os := os) (v := .bool (sameV ok is i j l l')) (refVerdict ok is i j hn hm (by omega) (by omega) (HX.out.tells (hbX dd os)) (HY.out.tells (hbX dd os)))
      have c3 := fun dd os => Calls.regrown_of (w := w1) (d := dd) (os := os) (v := .bool true) (by
        have := sameVerdict ok ok i i hn hn (by omega) (by omega) (HX.out.tells (hbX dd os)) (HX.out.tells (hbX dd os))
        rwa [same_self] at this)
      generalize sameV ok is i j l l' = q at c1 c2
      have k_v0 := cell_regrown v0
      have k_v1 := cell_regrown v1
      have k_v2 := cell_regrown v2
      have k_u0 := cell_regrown u0
      have k_u1 := cell_regrown u1
      have k_u2 := cell_regrown u2
      have q1 : (q == q) = true := by simp
      clear hbX KA HX HY
      go_upto_region 3 with fail
      refine wp_region_quiet_below (by kernel_rfl) (by kernel_rfl) ?_
      repeat (go_big_quiet_step (with_reducible first | exact c1 _ _ | exact c2 _ _ | exact c3 _ _))
      refine wpQuiet_nil ?_
      intro Z hw'
      obtain ⟨⟨dq, osq⟩, hw''⟩ := hw'
      have hbb := below_regrown w1 dq osq
      dsimp only at hw''
      rw [← hw''] at hbb
      have HB6 := Lib.hid (HB1.out.tells hbb)
      clear hbb hw'' k_v0 k_v1 k_v2 k_u0 k_u1 k_u2 c1 c2 c3 v0 v1 v2 u0 u1 u2 HB1
      go_wp2
      go_ret
      exact ⟨rfl, HB6.out.below⟩
end Go.Proofs.Ytklnokhabomnfaa
