/- Contracts of a ring of bools: where the i-th place is, how long the list is, a new ring. -/
import Derived.Test.YthdjflmligoelaaMem
namespace Go.Proofs.Ythdjflmligoelaa
open Go.RowKit

namespace R
abbrev Is := IsRing Value.bool 41 4 []
theorem k0 {w : World} {p g n f : Nat} {xs : List Bool} (h : Is w p g n f xs) : w.cell? ⟨p, 0, none⟩ = some (.slice (some ⟨g, 0, none⟩) n n) := IsRing.c0 h
theorem k1 {w : World} {p g n f : Nat} {xs : List Bool} (h : Is w p g n f xs) : w.cell? ⟨p, 1, none⟩ = some (.int .i64 (f : Int)) := IsRing.c1 h
theorem k2 {w : World} {p g n f : Nat} {xs : List Bool} (h : Is w p g n f xs) : w.cell? ⟨p, 2, none⟩ = some (.int .i64 (xs.length : Int)) := IsRing.c2 h
theorem info' : ((Try.prog.info? 4).map fun i => (i.zero, i.size, i.bytes)) = some (some (Value.bool false), 1, 1) := by kernel_rfl
theorem info : ∃ i, Try.prog.info? 4 = some i ∧ i.zero = some (Value.bool false) ∧ i.size = 1 ∧ i.bytes = 1 := by
  obtain ⟨i, hi, h⟩ := Option.map_eq_some_iff.1 info'
  simp only [Prod.mk.injEq] at h
  exact ⟨i, hi, h.1, h.2.1, h.2.2⟩

set_option maxHeartbeats 400000 in
theorem place {p g n f : Nat} (i j : Nat) {w : World} (n1 : 1 ≤ n) (n2 : n ≤ 4096) (f1 : f < n) (hi : i ≤ 4096) (hj : j = (f + i) % n)
    (c0 : w.cell? ⟨p, 0, none⟩ = some (.slice (some ⟨g, 0, none⟩) n n)) (c1 : w.cell? ⟨p, 1, none⟩ = some (.int .i64 (f : Int))) :
    Calls Try.prog 32 #[.pointer (some ⟨p, 0, none⟩), .int .i64 (i : Int)] w (Saw (.int .i64 (j : Int)) w) := by
  have HJ := Lib.hid hj
  clear hj
  have hn0 : ((n : Int) == 0) = false := by rw [beq_eq_false_iff_ne]; omega
  go_enter Try.func32, Try.ntmps32
  go_wp2
  go_quiet (fail)
  go_wp2
  go_ret
  refine ⟨ret_int ?_, nq, rfl⟩
  rw [HJ.out, Int.natCast_emod, Int.natCast_add]

theorem place1 {p g n f : Nat} (j : Nat) {w : World} (n1 : 1 ≤ n) (n2 : n ≤ 4096) (f1 : f < n) (hj : j = (f + 1) % n)
    (c0 : w.cell? ⟨p, 0, none⟩ = some (.slice (some ⟨g, 0, none⟩) n n)) (c1 : w.cell? ⟨p, 1, none⟩ = some (.int .i64 (f : Int))) :
    Calls Try.prog 32 #[.pointer (some ⟨p, 0, none⟩), .int .i64 1] w (Saw (.int .i64 (j : Int)) w) := place 1 j n1 n2 f1 (by omega) hj c0 c1

set_option maxHeartbeats 400000 in
theorem size {p g n f : Nat} {xs : List Bool} {w : World} (h : Is w p g n f xs) :
    Calls Try.prog 26 #[.pointer (some ⟨p, 0, none⟩)] w (Says (.int .i64 (xs.length : Int)) w) := by
  have c2 := (k2 h)
  clear h
  go_enter Try.func26, Try.ntmps26
  go_wp2
  go_ret
  exact ⟨rfl, rfl⟩

end R
end Go.Proofs.Ythdjflmligoelaa
