/- A run behind a tick. -/
import Derived.Test.YtbofpbochgoafaaRe
namespace Go.Proofs.Ytbofpbochgoafaa
open Go.RowKit

set_option maxRecDepth 100000 in
set_option maxHeartbeats 4000000 in
theorem step_runs {t : Tk} {d p l f : Int} {b : Bool} (q : Bool) (l1 : 1 < l) (l2 : l ≤ 1000) (w : World) :
    Calls Try.prog 10 #[aggR t d p l b f, .bool q] w (Gives (.tuple #[aggR t d p (l - 1) (b || q) f, .int .i64 0]) w) := by
  have t1 : decide (l < 1) = false := decide_eq_false (by omega)
  have t2 : decide (0 < l - 1) = true := decide_eq_true (by omega)
  simp only [aggR]
  cases b with
  | true =>
    have HB := Lib.hid (RTwo.made w t d p (l - 1) true f)
    simp only [boxR, t00] at HB
    rw [Bool.true_or]
    go_enter Try.func10, Try.ntmps10
    have HT := Lib.hid (run_there HB.out.res)
    have H9 := Lib.hid (HB.out.tell (t' := t) (d' := d) (p' := p) (l' := (l - 1)) (s' := true) (f' := f))
    go_wp2_with ((with_reducible refine store_run ?_ (.tmp 4) (.tmp 24) ?_ (w.heap.size + 1) t d p (l - 1) true f ?_ ?_ HT.out ?_); rfl; rfl; rfl; rfl)
    (try simp only [Exit.inBlock, Exit.then])
    refine bodyPost_ret (results_run2 rfl _ _ (w.heap.size + 1) _ rfl H9.out.res rfl) rfl ?_
    exact ⟨rfl, H9.out.below⟩
  | false =>
    have HB := Lib.hid (RTwo.made w t d p (l - 1) q f)
    simp only [boxR, t00] at HB
    rw [Bool.false_or]
    go_enter Try.func10, Try.ntmps10
    have HT := Lib.hid (run_there HB.out.res)
    have H9 := Lib.hid (HB.out.tell (t' := t) (d' := d) (p' := p) (l' := (l - 1)) (s' := q) (f' := f))
    go_wp2_with ((with_reducible refine store_run ?_ (.tmp 4) (.tmp 24) ?_ (w.heap.size + 1) t d p (l - 1) q f ?_ ?_ HT.out ?_); rfl; rfl; rfl; rfl)
    (try simp only [Exit.inBlock, Exit.then])
    refine bodyPost_ret (results_run2 rfl _ _ (w.heap.size + 1) _ rfl H9.out.res rfl) rfl ?_
    exact ⟨rfl, H9.out.below⟩
set_option maxRecDepth 100000 in
set_option maxHeartbeats 4000000 in
theorem step_fails {t : Tk} {d s f : Int} {n k : Nat} {b : Bool} (q : Bool) (hq : (b || q) = true) (h : Sm t d n s) (hk : IsPart t n k) (f0 : 0 ≤ f) (f1 : f ≤ 1000000000) (w : World) :
    Calls Try.prog 10 #[aggR t d (k : Int) 1 b f, .bool q] w (Gives (.tuple #[aggR t d (backK t k : Nat) (lenV t s d (backK t k)) false (f + 1), .int .i64 (evV t k)]) w) := by
  have KF := Lib.hid (fun W => failed (l := 0) (b := true) h hk f0 f1 W)
  have HB := Lib.hid (RTwo.made w t d k 0 true f)
  generalize lenV t s d (backK t k) = v at *
  generalize evV t k = ev at *
  generalize ((backK t k : Nat) : Int) = kk at *
  simp only [boxR, t00] at HB
  simp only [aggR] at KF ⊢
  clear h hk
  cases b with
  | true =>
    clear hq
    go_enter Try.func10, Try.ntmps10
    go_wp2_with (fail)
    with_reducible refine (KF.out _).mono ?_
    rintro en w2 ⟨rfl, hb⟩
    have H2 := Lib.hid (HB.out.tells hb)
    clear hb HB
    have HT := Lib.hid (run_there H2.out.res)
    have H9 := Lib.hid (H2.out.tell (t' := t) (d' := d) (p' := kk) (l' := v) (s' := false) (f' := (f + 1)))
    go_wp2_with ((with_reducible refine store_run ?_ (.tmp 4) (.tmp 30) ?_ (w.heap.size + 1) t d kk v false (f + 1) ?_ ?_ HT.out ?_); rfl; rfl; rfl; rfl)
    (try simp only [Exit.inBlock, Exit.then])
    refine bodyPost_ret (results_run2 rfl _ _ (w.heap.size + 1) _ rfl H9.out.res rfl) rfl ?_
    exact ⟨rfl, H9.out.below⟩
  | false =>
    rw [Bool.false_or] at hq
    subst hq
    go_enter Try.func10, Try.ntmps10
    go_wp2_with (fail)
    with_reducible refine (KF.out _).mono ?_
    rintro en w2 ⟨rfl, hb⟩
    have H2 := Lib.hid (HB.out.tells hb)
    clear hb HB
    have HT := Lib.hid (run_there H2.out.res)
    have H9 := Lib.hid (H2.out.tell (t' := t) (d' := d) (p' := kk) (l' := v) (s' := false) (f' := (f + 1)))
    go_wp2_with ((with_reducible refine store_run ?_ (.tmp 4) (.tmp 30) ?_ (w.heap.size + 1) t d kk v false (f + 1) ?_ ?_ HT.out ?_); rfl; rfl; rfl; rfl)
    (try simp only [Exit.inBlock, Exit.then])
    refine bodyPost_ret (results_run2 rfl _ _ (w.heap.size + 1) _ rfl H9.out.res rfl) rfl ?_
    exact ⟨rfl, H9.out.below⟩
set_option maxRecDepth 100000 in
set_option maxHeartbeats 4000000 in
theorem step_done {t : Tk} {d s f : Int} {n k : Nat} (h : Sm t d n s) (hk : IsPart t n k) (hl : n ≤ k + 1) (w : World) :
    Calls Try.prog 10 #[aggR t d (k : Int) 1 false f, .bool false] w (Gives (.tuple #[aggR t d k 0 false f, .int .i64 4]) w) := by
  have KF := Lib.hid (fun W => passed_last (l := 0) (f := f) (b := false) h hk hl W)
  have HB := Lib.hid (RTwo.made w t d k 0 false f)
  simp only [boxR, t00] at HB
  simp only [aggR] at KF ⊢
  clear h hk hl
  go_enter Try.func10, Try.ntmps10
  go_wp2_with (fail)
  with_reducible refine (KF.out _).mono ?_
  rintro en w2 ⟨rfl, hb⟩
  have H2 := Lib.hid (HB.out.tells hb)
  clear hb HB
  have HT := Lib.hid (run_there H2.out.res)
  have H9 := Lib.hid (H2.out.tell (t' := t) (d' := d) (p' := k) (l' := 0) (s' := false) (f' := f))
  go_wp2_with ((with_reducible refine store_run ?_ (.tmp 4) (.tmp 34) ?_ (w.heap.size + 1) t d k 0 false f ?_ ?_ HT.out ?_); rfl; rfl; rfl; rfl)
  (try simp only [Exit.inBlock, Exit.then])
  refine bodyPost_ret (results_run2 rfl _ _ (w.heap.size + 1) _ rfl H9.out.res rfl) rfl ?_
  exact ⟨rfl, H9.out.below⟩
set_option maxRecDepth 100000 in
set_option maxHeartbeats 4000000 in
theorem step_passed {t : Tk} {d s f : Int} {n k : Nat} (h : Sm t d n s) (hl : k + 1 < n) (w : World) :
    Calls Try.prog 10 #[aggR t d (k : Int) 1 false f, .bool false] w (Gives (.tuple #[aggR t d ((k : Int) + 1) (lenV t s d (k + 1)) false f, .int .i64 1]) w) := by
  have KF := Lib.hid (fun W => passed_more (l := 0) (f := f) (b := false) h hl W)
  have HB := Lib.hid (RTwo.made w t d k 0 false f)
  generalize lenV t s d (k + 1) = v at *
  obtain ⟨k1, hk1⟩ : ∃ x : Int, x = (k : Int) + 1 := ⟨_, rfl⟩
  rw [← hk1] at KF ⊢
  simp only [boxR, t00] at HB
  simp only [aggR] at KF ⊢
  clear h hl hk1
  go_enter Try.func10, Try.ntmps10
  go_wp2_with (fail)
  with_reducible refine (KF.out _).mono ?_
  rintro en w2 ⟨rfl, hb⟩
  have H2 := Lib.hid (HB.out.tells hb)
  clear hb HB
  have HT := Lib.hid (run_there H2.out.res)
  have H9 := Lib.hid (H2.out.tell (t' := t) (d' := d) (p' := k1) (l' := v) (s' := false) (f' := f))
  go_wp2_with ((with_reducible refine store_run ?_ (.tmp 4) (.tmp 34) ?_ (w.heap.size + 1) t d k1 v false f ?_ ?_ HT.out ?_); rfl; rfl; rfl; rfl)
  (try simp only [Exit.inBlock, Exit.then])
  refine bodyPost_ret (results_run2 rfl _ _ (w.heap.size + 1) _ rfl H9.out.res rfl) rfl ?_
  exact ⟨rfl, H9.out.below⟩
end Go.Proofs.Ytbofpbochgoafaa
