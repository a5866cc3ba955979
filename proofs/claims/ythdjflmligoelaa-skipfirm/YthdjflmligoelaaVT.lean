/- Contract of a ring of bools in a window in a skipper: the i-th, or that there is none. -/
import Derived.Test.YthdjflmligoelaaVD
namespace Go.Proofs.Ythdjflmligoelaa
open Go.RowKit

namespace V
set_option maxHeartbeats 400000 in
theorem at_none {s : Hd} {m : Nat} {p g n f : Nat} {xs : List Bool} (i : Int) {w : World} (hi : i < 0 ∨ (xs.length : Int) ≤ i) (h : Is s m w p g n f xs) :
    Calls Try.prog 33 #[.pointer (some ⟨p, 6, none⟩), .int .i64 i] w (Says (.tuple #[Value.bool false, .bool false]) w) := by
  have c2 := (k2 h)
  clear h
  rcases hi with hi | hi
  · go_enter Try.func33, Try.ntmps33
    go_wp2
    go_ret2
    exact ⟨rfl, rfl⟩
  · have t1 : decide (i < 0) = false := by simp; omega
    have t2 : decide ((xs.length : Int) ≤ i) = true := by simp; omega
    go_enter Try.func33, Try.ntmps33
    go_wp2
    go_ret2
    exact ⟨rfl, rfl⟩

set_option maxHeartbeats 400000 in
theorem at_some {s : Hd} {m : Nat} {p g n f : Nat} {xs : List Bool} (k : Nat) (x : Bool) {w : World} (hx : xs[k]? = some x) (h : Is s m w p g n f xs) :
    Calls Try.prog 33 #[.pointer (some ⟨p, 6, none⟩), .int .i64 (k : Int)] w (Saw (.tuple #[.bool x, .bool true]) w) := by
  have hk : k < xs.length := (List.getElem?_eq_some_iff.1 hx).1
  have hl := h.len
  have c0 := (k0 h)
  have c1 := (k1 h)
  have c2 := (k2 h)
  have n1 := h.n1
  have n2 := h.n2
  have f1 := h.f1
  have cj := h.at_ hx
  clear h hx
  obtain ⟨j, hj⟩ : ∃ j, j = (f + k) % n := ⟨_, rfl⟩
  have hjn : j < n := by rw [hj]; exact Nat.mod_lt _ (by omega)
  rw [← hj] at cj
  have HJ := Lib.hid hj
  clear hj
  have t1 : decide ((k : Int) < 0) = false := by simp
  have t2 : decide ((xs.length : Int) ≤ (k : Int)) = false := by simp; omega
  have t3 : decide (xs.length ≤ k) = false := by simp; omega
  go_enter Try.func33, Try.ntmps33
  go_wp2
  go_quiet ((go_at_call 32; exact Calls.quiet_of (place k j n1 n2 f1 (by omega) HJ.out (by simpa using c0) (by simpa using c1))))
  go_wp2
  go_ret2
  exact ⟨rfl, _, rfl⟩
end V
end Go.Proofs.Ythdjflmligoelaa
