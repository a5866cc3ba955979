/- Contracts of a ring of bools in a window in a skipper: what is put, and refused. -/
import Derived.Test.YthdjflmligoelaaVA
import Derived.Deep.RegionHeld3
namespace Go.Proofs.Ythdjflmligoelaa
open Go.RowKit

namespace V
set_option maxHeartbeats 400000 in
theorem put_full {s : Hd} {m : Nat} {p g n f : Nat} {xs : List Bool} (x : Bool) {w : World} (hl : xs.length = n) (h : Is s m w p g n f xs) :
    Calls Try.prog 25 #[.pointer (some ⟨p, 6, none⟩), .bool x] w (Saw (.int .i64 3) w) := by
  have c0 := (k0 h)
  have c2 := (k2 h)
  rw [hl] at c2
  clear hl h
  go_enter Try.func25, Try.ntmps25
  go_wp2
  go_quiet (fail)
  go_wp2
  go_ret
  exact ⟨rfl, nq, rfl⟩

/-- What is put is the list's last. -/
def Puts (s : Hd) (m : Nat) (p g n f : Nat) (xs : List Bool) (w : World) (e : Ending) (w' : World) : Prop :=
  e = .returned (.int .i64 0) ∧ Is s m w' p g n f xs ∧ Turns p g w w'

set_option maxHeartbeats 400000 in
theorem put {s : Hd} {m : Nat} {p g n f : Nat} {xs : List Bool} (x : Bool) {w : World} (hl : xs.length < n) (h : Is s m w p g n f xs) :
    Calls Try.prog 25 #[.pointer (some ⟨p, 6, none⟩), .bool x] w (Puts s m p g n f (xs ++ [x]) w) := by
  have c0 := (k0 h)
  have c1 := (k1 h)
  have c2 := (k2 h)
  have n1 := h.n1
  have n2 := h.n2
  have f1 := h.f1
  have H := Lib.hid h
  obtain ⟨j, hj⟩ : ∃ j, j = (f + xs.length) % n := ⟨_, rfl⟩
  have hjn : j < n := by rw [hj]; exact Nat.mod_lt _ (by omega)
  obtain ⟨u, cj⟩ := h.some_ hjn
  have tj := h.tg j
  have tp := h.t 8
  have hne := h.ne
  have hgp := Ne.symm hne
  clear h
  have HJ := Lib.hid hj
  clear hj
  have t1 : ((xs.length : Int) == (n : Int)) = false := by rw [beq_eq_false_iff_ne]; omega
  go_enter Try.func25, Try.ntmps25
  go_wp2
  go_quiet (fail)
  go_wp2
  go_region_held3 (fun w' => w'.cell? ⟨p, 6, none⟩ = some (.slice (some ⟨g, 0, none⟩) n n) ∧ w'.cell? ⟨p, 8, none⟩ = some (.int .i64 (xs.length : Int))) (go_keep)
    (first | (go_at_call 32; (with_reducible refine (place xs.length j n1 n2 f1 (by omega) HJ.out (by simpa using c0) (by simpa using c1)).mono ?_); rintro e w' ⟨rfl, m, rfl⟩))
  go_wp2
  go_ret
  refine ⟨rfl, ?_, ((((Turns.refl p g w).drewN _).setCell (a := ⟨g, j, none⟩) (.inr rfl) _).setCell (a := ⟨p, 8, none⟩) (.inl rfl) _)⟩
  have := (H.out.drewN (nq + 1 + m)).put hl x
  rw [← HJ.out] at this
  exact this
end V
end Go.Proofs.Ythdjflmligoelaa
