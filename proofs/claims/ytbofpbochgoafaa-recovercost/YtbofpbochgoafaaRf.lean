/- A run at its begin. -/
import Derived.Test.YtbofpbochgoafaaRb
namespace Go.Proofs.Ytbofpbochgoafaa
open Go.RowKit

/-- A task in the block that the call made first; the result's block behind it. -/
structure BTwo (w : World) (t : Tk) (W : World) : Prop where
  below : Below w.heap.size w W
  lies : Lies W w.heap.size 23 (boxT t)
  res : Lies W (w.heap.size + 1) 28 (boxR t00 0 0 0 false 0)
section
variable {w W W' : World} {t : Tk}
theorem BTwo.made (w : World) (t : Tk) : BTwo w t ((w.alloc (.cells (boxT t) 23)).alloc (.cells (boxR t00 0 0 0 false 0) 28)) :=
  ⟨(below_new _ _).alloc (by simp) _, (Lies.made _ _ _).alloc _, by have := Lies.made (w.alloc (.cells (boxT t) 23)) 28 (boxR t00 0 0 0 false 0); simpa using this⟩
theorem BTwo.tells (h : BTwo w t W) (hb : Below W.heap.size W W') : BTwo w t W' := ⟨h.below.trans (hb.mono h.below.size), h.lies.below hb h.lies.lt, h.res.below hb h.res.lt⟩
theorem BTwo.tell {t' : Tk} {d' p' l' f' : Int} {s' : Bool} (h : BTwo w t W) : RDone w t' d' p' l' s' f' (W.setCells (w.heap.size + 1) 0 (cellsR t' d' p' l' s' f')) :=
  ⟨below_setCells (by omega) _ _ _ h.below, run_put h.res⟩
end
set_option maxRecDepth 100000 in
set_option maxHeartbeats 4000000 in
theorem begin_ {t : Tk} {d s : Int} {n : Nat} (h : Sm t d n s) (w : World) :
    Calls Try.prog 9 #[aggK t, .int .i64 d] w (Gives (.tuple #[aggR t d 0 (lenV t s d 0) false 0, .int .i64 0]) w) := by
  have HB := Lib.hid (BTwo.made w t)
  have KB : Hid (∀ W, Calls Try.prog 17 #[aggR t d 0 0 false 0, .int .i64 0] W (Gives (aggR t d 0 (lenV t s d 0) false 0) W)) := Lib.hid (fun W => begun (p := 0) (l := 0) (f := 0) (b := false) h h.first W)
  have hl := h.len h.first
  obtain ⟨h1, h2, _⟩ := h.nums
  have hdC := h.dC
  have hC := h.C
  simp only [boxR, t00, boxT] at HB
  generalize lenV t s d 0 = v at *
  simp only [aggR, aggK] at KB ⊢
  have t1 : decide (d < 1) = false := decide_eq_false (by omega)
  have t2 : decide (t.C < d) = false := decide_eq_false (by omega)
  clear h
  go_enter Try.func9, Try.ntmps9
  go_wp2_with (fail)
  with_reducible refine (KB.out _).mono ?_
  rintro e w2 ⟨rfl, hb⟩
  have H2 := Lib.hid ((HB.out.tells hb).tells (below_new w2 (.cells (boxR t d 0 v false 0) 28)))
  clear hb HB
  simp only [boxR] at H2
  have HT := Lib.hid (run_there H2.out.res)
  have H9 := Lib.hid (H2.out.tell (t' := t) (d' := d) (p' := 0) (l' := v) (s' := false) (f' := 0))
  go_wp2_with ((with_reducible refine store_run ?_ (.tmp 4) (.tmp 24) ?_ (w.heap.size + 1) t d 0 v false 0 ?_ ?_ HT.out ?_); rfl; rfl; rfl; rfl)
  (try simp only [Exit.inBlock, Exit.then])
  refine bodyPost_ret (results_run2 rfl _ _ (w.heap.size + 1) _ rfl H9.out.res rfl) rfl ?_
  exact ⟨rfl, H9.out.below⟩
set_option maxRecDepth 100000 in
set_option maxHeartbeats 4000000 in
theorem begin_no {t : Tk} {d : Int} (h : t.C < d) (h1 : 1 ≤ d) (w : World) :
    Calls Try.prog 9 #[aggK t, .int .i64 d] w (Gives (.tuple #[aggR t00 0 0 0 false 0, .int .i64 1]) w) := by
  have HB := Lib.hid (BTwo.made w t)
  have t1 : decide (d < 1) = false := decide_eq_false (by omega)
  have t2 : decide (t.C < d) = true := decide_eq_true (by omega)
  simp only [boxR, t00, boxT] at HB
  simp only [aggR, aggK, t00]
  clear h
  go_enter Try.func9, Try.ntmps9
  have HT := Lib.hid (run_there HB.out.res)
  have H9 := Lib.hid (HB.out.tell (t' := t00) (d' := 0) (p' := 0) (l' := 0) (s' := false) (f' := 0))
  go_wp2_with ((with_reducible refine store_run ?_ (.tmp 4) (.tmp 15) ?_ (w.heap.size + 1) t00 0 0 0 false 0 ?_ ?_ HT.out ?_); rfl; rfl; rfl; rfl)
  (try simp only [Exit.inBlock, Exit.then])
  refine bodyPost_ret (results_run2 rfl _ _ (w.heap.size + 1) _ rfl H9.out.res rfl) rfl ?_
  exact ⟨rfl, H9.out.below⟩
end Go.Proofs.Ytbofpbochgoafaa
