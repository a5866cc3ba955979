/- The dearest of the tasks that a function literal asks for; Dear, Ahead. -/
import Derived.Test.YtklnokhabomnfaaFq
import Derived.Test.YtklnokhabomnfaaMk
namespace Go.Proofs.Ytklnokhabomnfaa
open Go.RowKit

set_option maxHeartbeats 1000000 in
theorem isPlace {b : Int} {a : Option Addr} {n cap k : Nat} (hk : k < n) (w : World) : Calls Try.prog 38 #[.agg #[.int .i64 b, .slice a n cap], .int .i64 (k : Int)] w (Gives (.bool true) w) := by
  have HB := Lib.hid (SetBox.made w b a n cap)
  have t0 : decide ((0 : Int) ≤ (k : Int)) = true := by simp
  have t1 : decide ((k : Int) < (n : Int)) = true := by simp; omega
  go_enter Try.func38, Try.ntmps38
  go_wp2
  go_ret
  exact ⟨rfl, HB.out.below⟩
set_option maxHeartbeats 1000000 in
theorem dearFn (t : Tk) (p : Int) (g : Nat) (w : World) (hc : w.cell? ⟨g, 10, none⟩ = some (.int .i64 p)) (hg : g < w.heap.size) :
    Calls Try.prog 62 #[aggK t, .pointer (some ⟨g, 0, none⟩)] w (Gives (.bool (dearQ p t)) w) := by
  have HB := Lib.hid (Box.made w t)
  have HC := Lib.hid ((HB.out.below.cell (p := ⟨g, 10, none⟩) hg).trans hc)
  clear hc
  simp only [boxT] at HB HC
  simp only [aggK]
  by_cases h1 : t.Prio ≤ p
  · have t1 : decide (t.Prio ≤ p) = true := decide_eq_true h1
    have HQ := Lib.hid (show dearQ p t = true by simp [dearQ, h1])
    rw [HQ.out]
    have c1 := HC.out
    go_enter Try.func62, Try.ntmps62
    go_wp2
    go_ret
    exact ⟨rfl, HB.out.below⟩
  · have t1 : decide (t.Prio ≤ p) = false := decide_eq_false h1
    have HQ := Lib.hid (show dearQ p t = (t.Mode == 3) by simp [dearQ, h1]; rfl)
    rw [HQ.out]
    have c1 := HC.out
    go_enter Try.func62, Try.ntmps62
    go_wp2
    go_ret
    exact ⟨rfl, HB.out.below⟩
set_option maxHeartbeats 1000000 in
theorem aheadFn (t : Tk) (p : Int) (g : Nat) (w : World) (hc : w.cell? ⟨g, 10, none⟩ = some (.int .i64 p)) (hg : g < w.heap.size) :
    Calls Try.prog 61 #[aggK t, .pointer (some ⟨g, 0, none⟩)] w (Gives (.bool (aheadQ p t)) w) := by
  have HB := Lib.hid (Box.made w t)
  have HC := Lib.hid ((HB.out.below.cell (p := ⟨g, 10, none⟩) hg).trans hc)
  clear hc
  simp only [boxT] at HB HC
  simp only [aggK]
  by_cases h1 : p ≤ t.Prio
  · have t1 : decide (p ≤ t.Prio) = true := decide_eq_true h1
    have HQ := Lib.hid (show aheadQ p t = (t.Mode == 3) by simp [aheadQ, h1]; rfl)
    rw [HQ.out]
    have c1 := HC.out
    go_enter Try.func61, Try.ntmps61
    go_wp2
    go_ret
    exact ⟨rfl, HB.out.below⟩
  · have t1 : decide (p ≤ t.Prio) = false := decide_eq_false h1
    have HQ := Lib.hid (show aheadQ p t = false by simp [aheadQ, h1])
    rw [HQ.out]
    have c1 := HC.out
    go_enter Try.func61, Try.ntmps61
    go_wp2
    go_ret
    exact ⟨rfl, HB.out.below⟩
end Go.Proofs.Ytklnokhabomnfaa
