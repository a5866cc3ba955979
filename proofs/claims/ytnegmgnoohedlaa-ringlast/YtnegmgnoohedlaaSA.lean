/- Contracts of a ring of texts: where the i-th place is, how long the list is, a new ring. -/
import Derived.Test.YtnegmgnoohedlaaMem
namespace Go.Proofs.Ytnegmgnoohedlaa
open Go.RowKit

namespace S
abbrev Is := IsRing Value.string 57 9
/-- A new ring of n places. -/
def News (n : Nat) (w : World) (e : Ending) (w' : World) : Prop :=
  ∃ p g, e = .returned (.tuple #[.pointer (some ⟨p, 0, none⟩), .int .i64 0]) ∧ w.heap.size ≤ p ∧ w.heap.size ≤ g ∧ Is w' p g n 0 [] ∧ Below w.heap.size w w'

theorem info' : ((Try.prog.info? 9).map fun i => (i.zero, i.size, i.bytes)) = some (some (Value.string ⟨#[]⟩), 1, 16) := by kernel_rfl
theorem info : ∃ i, Try.prog.info? 9 = some i ∧ i.zero = some (Value.string ⟨#[]⟩) ∧ i.size = 1 ∧ i.bytes = 16 := by
  obtain ⟨i, hi, h⟩ := Option.map_eq_some_iff.1 info'
  simp only [Prod.mk.injEq] at h
  exact ⟨i, hi, h.1, h.2.1, h.2.2⟩

set_option maxHeartbeats 400000 in
theorem place {p g n f : Nat} (i j : Nat) {w : World} (n1 : 1 ≤ n) (n2 : n ≤ 4096) (f1 : f < n) (hi : i ≤ 4096) (hj : j = (f + i) % n)
    (c0 : w.cell? ⟨p, 0, none⟩ = some (.slice (some ⟨g, 0, none⟩) n n)) (c1 : w.cell? ⟨p, 1, none⟩ = some (.int .i64 (f : Int))) :
    Calls Try.prog 24 #[.pointer (some ⟨p, 0, none⟩), .int .i64 (i : Int)] w (Saw (.int .i64 (j : Int)) w) := by
  have HJ := Lib.hid hj
  clear hj
  have hn0 : ((n : Int) == 0) = false := by rw [beq_eq_false_iff_ne]; omega
  go_enter Try.func24, Try.ntmps24
  go_wp2
  go_quiet (fail)
  go_wp2
  go_ret
  refine ⟨ret_int ?_, nq, rfl⟩
  rw [HJ.out, Int.natCast_emod, Int.natCast_add]

theorem place1 {p g n f : Nat} (j : Nat) {w : World} (n1 : 1 ≤ n) (n2 : n ≤ 4096) (f1 : f < n) (hj : j = (f + 1) % n)
    (c0 : w.cell? ⟨p, 0, none⟩ = some (.slice (some ⟨g, 0, none⟩) n n)) (c1 : w.cell? ⟨p, 1, none⟩ = some (.int .i64 (f : Int))) :
    Calls Try.prog 24 #[.pointer (some ⟨p, 0, none⟩), .int .i64 1] w (Saw (.int .i64 (j : Int)) w) := place 1 j n1 n2 f1 (by omega) hj c0 c1

set_option maxHeartbeats 400000 in
theorem size {p g n f : Nat} {xs : List ByteArray} {w : World} (h : Is w p g n f xs) :
    Calls Try.prog 19 #[.pointer (some ⟨p, 0, none⟩)] w (Says (.int .i64 (xs.length : Int)) w) := by
  have c2 := h.c2
  clear h
  go_enter Try.func19, Try.ntmps19
  go_wp2
  go_ret
  exact ⟨rfl, rfl⟩

set_option maxHeartbeats 400000 in
theorem new_no (k : Int) (w : World) (h : k < 1 ∨ 4096 < k) :
    Calls Try.prog 14 #[.int .i64 k] w (Says (.tuple #[.pointer none, .int .i64 1]) w) := by
  rcases h with h | h
  · go_enter Try.func14, Try.ntmps14
    go_wp2
    go_ret2
    exact ⟨rfl, rfl⟩
  · have h' : ¬ k < 1 := by omega
    go_enter Try.func14, Try.ntmps14
    go_wp2
    go_ret2
    exact ⟨rfl, rfl⟩

theorem fresh (w : World) (n : Nat) (h1 : 1 ≤ n) (h2 : n ≤ 4096) (cs : Array Value) (hs : cs.size = n) :
    Is ((w.alloc (.cells cs 9)).alloc (.cells #[.slice (some ⟨w.heap.size, 0, none⟩) n n, .int .i64 0, .int .i64 0] 57)) (w.heap.size + 1) w.heap.size n 0 [] := by
  refine ⟨by omega, h1, h2, by omega, Nat.zero_le _, ?_, cs, (Lies.made w 9 cs).alloc _, hs, fun i u hu => by simp at hu⟩
  have := Lies.made (w.alloc (.cells cs 9)) 57 #[.slice (some ⟨w.heap.size, 0, none⟩) n n, .int .i64 0, .int .i64 0]
  have hz : (w.alloc (.cells cs 9)).heap.size = w.heap.size + 1 := by simp
  rw [hz] at this
  exact this

set_option maxHeartbeats 400000 in
theorem new (n : Nat) (w : World) (h1 : 1 ≤ n) (h2 : n ≤ 4096) :
    Calls Try.prog 14 #[.int .i64 (n : Int)] w (News n w) := by
  obtain ⟨i, hi, hz, hs, hb⟩ := info
  have hmk : ∀ W : World, (Instr.makeSlice 37 (.int .i64 (n : Int)) (.int .i64 (n : Int))).run Try.prog W = .ok (.slice (some ⟨W.heap.size, 0, none⟩) n n) (W.alloc (.cells (madeCells (Value.string ⟨#[]⟩).cells n) 9)) := by
    intro W
    have := run_make (P := Try.prog) W 37 9 i (Value.string ⟨#[]⟩) Try.underlying37 hi hz .i64 .i64 n n (by omega) (by omega) (by rw [hb]; omega) (by omega)
    rw [hs] at this
    simpa using this
  have t1 : decide ((n : Int) < 1) = false := by simp; omega
  have t2 : decide ((4096 : Int) < (n : Int)) = false := by simp; omega
  clear hi hz hs hb
  go_enter Try.func14, Try.ntmps14
  go_wp2
  go_ret2
  exact ⟨w.heap.size + 1, w.heap.size, rfl, by omega, Nat.le_refl _, fresh w n h1 h2 _ (size_madeCells _ _), ((Below.refl _ _).alloc (Nat.le_refl _) _).alloc (by simp) _⟩
end S
end Go.Proofs.Ytnegmgnoohedlaa
