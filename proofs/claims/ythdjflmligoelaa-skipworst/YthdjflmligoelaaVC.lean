/- Contracts of a ring of bools in a window in a skipper: what is taken. -/
import Derived.Test.YthdjflmligoelaaVB
namespace Go.Proofs.Ythdjflmligoelaa
open Go.RowKit

namespace V
set_option maxHeartbeats 400000 in
theorem take_none {s : Hd} {m : Nat} {p g n f : Nat} {w : World} (h : Is s m w p g n f []) :
    Calls Try.prog 36 #[.pointer (some ⟨p, 6, none⟩)] w (Says (.tuple #[Value.bool false, .bool false]) w) := by
  have c2 := (k2 h)
  clear h
  go_enter Try.func36, Try.ntmps36
  go_wp2
  go_ret2
  exact ⟨rfl, rfl⟩

/-- The list's first is answered, and the rest is left. -/
def Takes (s : Hd) (m : Nat) (x : Bool) (p g n : Nat) (xs : List Bool) (w : World) (e : Ending) (w' : World) : Prop :=
  e = .returned (.tuple #[.bool x, .bool true]) ∧ (∃ f, Is s m w' p g n f xs) ∧ Turns p g w w'

set_option maxHeartbeats 400000 in
theorem take {s : Hd} {m : Nat} {p g n f : Nat} {x : Bool} {xs : List Bool} {w : World} (h : Is s m w p g n f (x :: xs)) :
    Calls Try.prog 36 #[.pointer (some ⟨p, 6, none⟩)] w (Takes s m x p g n xs w) := by
  have c0 := (k0 h)
  have c1 := (k1 h)
  have c2 := (k2 h)
  have n1 := h.n1
  have n2 := h.n2
  have f1 := h.f1
  have hl := h.len
  rw [List.length_cons] at c2 hl
  have cf := h.at_ (i := 0) (u := x) rfl
  rw [Nat.add_zero, Nat.mod_eq_of_lt f1] at cf
  have tf := h.tg f
  have tp1 := h.t 7
  have tp2 := h.t 8
  have hne := h.ne
  have hgp := Ne.symm hne
  have H := Lib.hid h
  clear h
  obtain ⟨j, hj⟩ : ∃ j, j = (f + 1) % n := ⟨_, rfl⟩
  have HJ := Lib.hid hj
  clear hj
  have t1 : ((xs.length : Int) + 1 == 0) = false := by rw [beq_eq_false_iff_ne]; omega
  go_enter Try.func36, Try.ntmps36
  go_wp2
  go_quiet (fail)
  go_wp2
  go_region_held3 (fun w' => w'.cell? ⟨p, 6, none⟩ = some (.slice (some ⟨g, 0, none⟩) n n) ∧ w'.cell? ⟨p, 7, none⟩ = some (.int .i64 (f : Int))) (go_keep) (first | fail)
  go_wp2_with (fail)
  have D0 := Lib.hid ((World.cell?_setCell_far (w.drewN (nq + 1)) ⟨g, f, none⟩ ⟨p, 6, none⟩ (Value.bool false) hgp).trans c0)
  have D1 := Lib.hid ((World.cell?_setCell_far (w.drewN (nq + 1)) ⟨g, f, none⟩ ⟨p, 7, none⟩ (Value.bool false) hgp).trans c1)
  with_reducible refine (place1 j n1 n2 f1 HJ.out D0.out D1.out).mono ?_
  rintro e w' ⟨rfl, m, rfl⟩
  go_wp2
  go_ret2
  refine ⟨rfl, ⟨j, ?_⟩, ?_⟩
  · have := (H.out.drewN (nq + 1)).take (Value.bool false)
    rw [← HJ.out] at this
    exact this.of_heap rfl
  · exact (((((Turns.refl p g w).drewN _).setCell (a := ⟨g, f, none⟩) (.inr rfl) _).drewN _).setCell (a := ⟨p, 7, none⟩) (.inl rfl) _).setCell (a := ⟨p, 8, none⟩) (.inl rfl) _
end V
end Go.Proofs.Ythdjflmligoelaa
