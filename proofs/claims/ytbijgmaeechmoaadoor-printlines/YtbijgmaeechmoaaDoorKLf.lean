/- What is asked of one task by itself. -/
import Derived.Test.YtbijgmaeechmoaaDoorKSp
namespace Go.Proofs.YtbijgmaeechmoaaDoor.Kx
open Go.RowKit

def cellsK (t : Tk) : List Value := [.string t.name, .int .i64 t.T, .int .i64 t.D, .int .i64 t.C, .int .i64 t.A, .int .i64 t.Seg, .int .i64 t.Cost, .int .i64 t.M, .int .i64 t.K, .int .i64 t.Mode, .int .i64 t.Prio]
/-- A task as a value. -/
def aggK (t : Tk) : Value := .agg #[.string t.name, .int .i64 t.T, .int .i64 t.D, .int .i64 t.C, .int .i64 t.A, .int .i64 t.Seg, .int .i64 t.Cost, .int .i64 t.M, .int .i64 t.K, .int .i64 t.Mode, .int .i64 t.Prio]
/-- It answers b; new memory was made, nothing else. -/
def Tells (b : Bool) (w : World) (e : Ending) (w' : World) : Prop := e = .returned (.bool b) ∧ Below w.heap.size w w'
theorem tells {b c : Bool} {w w' : World} (h : b = c) (hb : Below w.heap.size w w') : Tells b w (.returned (.bool c)) w' := ⟨by rw [h], hb⟩
theorem below_new (w : World) (o : Obj) : Below w.heap.size w (w.alloc o) := (Below.refl _ _).alloc (Nat.le_refl _) o

def withinB (n lo hi : Int) : Bool := decide (lo ≤ n) && decide (n ≤ hi)
set_option maxHeartbeats 400000 in
theorem within (n lo hi : Int) (w : World) {b : Bool} (hb : withinB n lo hi = b) : Calls Tryd.prog 44 #[.int .i64 n, .int .i64 lo, .int .i64 hi] w (Says (.bool b) w) := by
  subst hb
  unfold withinB
  by_cases h : lo ≤ n
  · have e : decide (lo ≤ n) = true := decide_eq_true h
    go_enter Tryd.func44, Tryd.ntmps44
    go_wp2
    go_ret
    exact ⟨by rw [e]; rfl, rfl⟩
  · have e : decide (lo ≤ n) = false := decide_eq_false h
    have HE := Lib.hid e
    clear e
    go_enter Tryd.func44, Tryd.ntmps44
    go_wp2
    go_ret
    exact ⟨by rw [HE.out]; rfl, rfl⟩

set_option maxHeartbeats 1000000 in
theorem badFirm (t : Tk) (v : Value) (w : World) : Calls Tryd.prog 64 #[aggK t, v] w (Tells (bFirm t) w) := by
  obtain ⟨n, tT, tD, tC, tA, tS, tc, tM, tK, tO, tP⟩ := t
  simp only [aggK]
  by_cases h1 : 1 ≤ tM
  · have d1 : decide (1 ≤ tM) = true := decide_eq_true h1
    by_cases h2 : tM ≤ tK
    · have d2 : decide (tM ≤ tK) = true := decide_eq_true h2
      have HV := Lib.hid (show bFirm ⟨n, tT, tD, tC, tA, tS, tc, tM, tK, tO, tP⟩ = !decide (tK ≤ 64) by simp [bFirm, firmOk, h1, h2])
      go_enter Tryd.func64, Tryd.ntmps64
      go_wp2
      go_ret
      exact tells HV.out (below_new _ _)
    · have d2 : decide (tM ≤ tK) = false := decide_eq_false h2
      have HV := Lib.hid (show bFirm ⟨n, tT, tD, tC, tA, tS, tc, tM, tK, tO, tP⟩ = true by simp [bFirm, firmOk, h2])
      go_enter Tryd.func64, Tryd.ntmps64
      go_wp2
      go_ret
      exact tells HV.out (below_new _ _)
  · have d1 : decide (1 ≤ tM) = false := decide_eq_false h1
    have HV := Lib.hid (show bFirm ⟨n, tT, tD, tC, tA, tS, tc, tM, tK, tO, tP⟩ = true by simp [bFirm, firmOk, h1])
    go_enter Tryd.func64, Tryd.ntmps64
    go_wp2
    go_ret
    exact tells HV.out (below_new _ _)
end Go.Proofs.YtbijgmaeechmoaaDoor.Kx
