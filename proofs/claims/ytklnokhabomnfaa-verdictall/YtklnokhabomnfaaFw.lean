/- Whether a set's tasks are few, with short names; whether a task is hard. -/
import Derived.Test.YtklnokhabomnfaaMk
namespace Go.Proofs.Ytklnokhabomnfaa
open Go.RowKit

/-- Few, and short. -/
def fewK (l : List Tk) : Prop := l.length ≤ 30 ∧ ∀ t ∈ l, t.name.size ≤ 60
def FewRel (b : Int) (l : List Tk) (a : Option Addr) (cap : Nat) (w : World) (i : Value) (W : World) : Prop :=
  ∃ k : Nat, k ≤ min l.length 40 ∧ i = .int .i64 (k : Int) ∧ W = w.alloc (.cells #[.int .i64 b, .slice a l.length cap] 24) ∧ ∀ j t, j < k → l[j]? = some t → t.name.size ≤ 60
/-- 'true' of few and short ones alone. -/
def Fews (l : List Tk) (w : World) (e : Ending) (w' : World) : Prop := ∃ b, e = .returned (.bool b) ∧ Below w.heap.size w w' ∧ (b = true → fewK l)

set_option maxHeartbeats 2000000 in
theorem few (b : Int) (l : List Tk) (a : Option Addr) (cap : Nat) {w : World} (hm : l.length ≤ maxLen) (ht : Tasks w a cap l) :
    Calls Try.prog 10 #[.agg #[.int .i64 b, .slice a l.length cap]] w (Fews l w) := by
  unfold maxLen at hm
  have HT := Lib.hid ht
  have HB0 := Lib.hid (below_new w (.cells #[.int .i64 b, .slice a l.length cap] 24))
  clear ht
  go_enter Try.func10, Try.ntmps10
  go_wp2
  go_loopw [3] (fun i W => FewRel b l a cap w i W) (fun i _ => 40 - (intOf i).toNat)
  case atStart => exact ⟨0, by omega, rfl, rfl, fun j _ hj => by omega⟩
  case round =>
    obtain ⟨k, hk, rfl, rfl, hall⟩ := hrel
    have HA := Lib.hid hall
    clear hall
    by_cases hlt : k < l.length
    · have t1 : decide ((k : Int) < (l.length : Int)) = true := by simp; omega
      by_cases h4 : k < 40
      · have t2 : decide ((k : Int) < 40) = true := by simp; omega
        have hx : l[k]? = some l[k] := List.getElem?_eq_getElem hlt
        have HX := Lib.hid hx
        obtain ⟨bb, off, rfl, hbl, x0, y1, y2, y3, y4, y5, y6, y7, y8, y9, y10⟩ := HT.out.cells hx
        clear hx y1 y2 y3 y4 y5 y6 y7 y8 y9 y10
        generalize l[k] = x at x0 HX
        obtain ⟨y, hy⟩ : ∃ y, y = x.name := ⟨_, rfl⟩
        rw [← hy] at x0
        have HYN := Lib.hid hy
        clear hy
        by_cases h6 : 60 < y.size
        · have t3 : decide ((60 : Int) < (y.size : Int)) = true := by simp; omega
          go_wp2
          go_ret
          exact ⟨false, rfl, HB0.out, fun h => by cases h⟩
        · have t3 : decide ((60 : Int) < (y.size : Int)) = false := by simp; omega
          have HA1 : Hid (∀ j s, j < k + 1 → l[j]? = some s → s.name.size ≤ 60) := fun j s hj hs => by
            by_cases hjk : j = k
            · rw [hjk, HX.out] at hs
              cases hs
              rw [← HYN.out]; omega
            · exact HA.out j s (by omega) hs
          go_wp2
          go_roundw
          case rel => exact ⟨k + 1, by omega, by go_num, rfl, HA1.out⟩
          case measure => simp [intOf]; omega
      · have t2 : decide ((k : Int) < 40) = false := by simp; omega
        have t3 : decide ((l.length : Int) ≤ 30) = false := by simp; omega
        go_wp2
        go_ret
        exact ⟨false, rfl, HB0.out, fun h => by cases h⟩
    · have t1 : decide ((k : Int) < (l.length : Int)) = false := by simp; omega
      have t1' : decide (k < l.length) = false := by simp; omega
      by_cases h3 : l.length ≤ 30
      · have t3 : decide ((l.length : Int) ≤ 30) = true := by simp; omega
        have HF := Lib.hid (show fewK l from ⟨h3, fun s hs => by
          obtain ⟨j, hj⟩ := List.getElem?_of_mem hs
          have := (List.getElem?_eq_some_iff.1 hj).1
          exact HA.out j s (by omega) hj⟩)
        go_wp2
        go_ret
        exact ⟨true, rfl, HB0.out, fun _ => HF.out⟩
      · have t3 : decide ((l.length : Int) ≤ 30) = false := by simp; omega
        go_wp2
        go_ret
        exact ⟨false, rfl, HB0.out, fun h => by cases h⟩

end Go.Proofs.Ytklnokhabomnfaa
