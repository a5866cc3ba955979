/- Contract of a ring of bools: a new one. -/
import Derived.Test.YthdjflmligoelaaRA
namespace Go.Proofs.Ythdjflmligoelaa
open Go.RowKit

namespace R
/-- A new ring of n places. -/
def News (n : Nat) (w : World) (e : Ending) (w' : World) : Prop :=
  ∃ p g, e = .returned (.tuple #[.pointer (some ⟨p, 0, none⟩), .int .i64 0]) ∧ w.heap.size ≤ p ∧ w.heap.size ≤ g ∧ Is w' p g n 0 [] ∧ Below w.heap.size w w'

set_option maxHeartbeats 400000 in
theorem new_no (k : Int) (w : World) (h : k < 1 ∨ 4096 < k) :
    Calls Try.prog 24 #[.int .i64 k] w (Says (.tuple #[.pointer none, .int .i64 1]) w) := by
  rcases h with h | h
  · go_enter Try.func24, Try.ntmps24
    go_wp2
    go_ret2
    exact ⟨rfl, rfl⟩
  · have h' : ¬ k < 1 := by omega
    go_enter Try.func24, Try.ntmps24
    go_wp2
    go_ret2
    exact ⟨rfl, rfl⟩

theorem fresh (w : World) (n : Nat) (h1 : 1 ≤ n) (h2 : n ≤ 4096) (cs : Array Value) (hs : cs.size = n) :
    Is ((w.alloc (.cells cs 4)).alloc (.cells #[.slice (some ⟨w.heap.size, 0, none⟩) n n, .int .i64 0, .int .i64 0] 41)) (w.heap.size + 1) w.heap.size n 0 [] := by
  refine ⟨by omega, h1, h2, by omega, Nat.zero_le _, ?_, cs, (Lies.made w 4 cs).alloc _, hs, fun i u hu => by simp at hu⟩
  have := Lies.made (w.alloc (.cells cs 4)) 41 #[.slice (some ⟨w.heap.size, 0, none⟩) n n, .int .i64 0, .int .i64 0]
  have hz : (w.alloc (.cells cs 4)).heap.size = w.heap.size + 1 := by simp
  rw [hz] at this
  exact this

set_option maxHeartbeats 400000 in
theorem new (n : Nat) (w : World) (h1 : 1 ≤ n) (h2 : n ≤ 4096) :
    Calls Try.prog 24 #[.int .i64 (n : Int)] w (News n w) := by
  obtain ⟨i, hi, hz, hs, hb⟩ := info
  have hmk : ∀ W : World, (Instr.makeSlice 22 (.int .i64 (n : Int)) (.int .i64 (n : Int))).run Try.prog W = .ok (.slice (some ⟨W.heap.size, 0, none⟩) n n) (W.alloc (.cells (madeCells (Value.bool false).cells n) 4)) := by
    intro W
    have := run_make (P := Try.prog) W 22 4 i (Value.bool false) Try.underlying22 hi hz .i64 .i64 n n (by omega) (by omega) (by rw [hb]; omega) (by omega)
    rw [hs] at this
    simpa using this
  have t1 : decide ((n : Int) < 1) = false := by simp; omega
  have t2 : decide ((4096 : Int) < (n : Int)) = false := by simp; omega
  clear hi hz hs hb
  go_enter Try.func24, Try.ntmps24
  go_wp2
  go_ret2
  exact ⟨w.heap.size + 1, w.heap.size, rfl, by omega, Nat.le_refl _, fresh w n h1 h2 _ (size_madeCells _ _), ((Below.refl _ _).alloc (Nat.le_refl _) _).alloc (by simp) _⟩
end R
end Go.Proofs.Ythdjflmligoelaa
