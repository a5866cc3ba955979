/- Contracts of a ring of bools in a window in a skipper: what is pushed; the i-th; all. -/
import Derived.Test.YthdjflmligoelaaVC
namespace Go.Proofs.Ythdjflmligoelaa
open Go.RowKit

namespace V
/-- It tells b, and the ring's list is xs. -/
def Pushes (s : Hd) (m : Nat) (b : Bool) (p g n : Nat) (xs : List Bool) (w : World) (e : Ending) (w' : World) : Prop :=
  e = .returned (.bool b) ∧ (∃ f, Is s m w' p g n f xs) ∧ Turns p g w w'

set_option maxHeartbeats 400000 in
theorem push_room {s : Hd} {m : Nat} {p g n f : Nat} {xs : List Bool} (x : Bool) {w : World} (hl : xs.length < n) (h : Is s m w p g n f xs) :
    Calls Try.prog 30 #[.pointer (some ⟨p, 6, none⟩), .bool x] w (Pushes s m false p g n (xs ++ [x]) w) := by
  have H := Lib.hid h
  clear h
  go_enter Try.func30, Try.ntmps30
  go_wp2_with (fail)
  with_reducible refine (put x hl H.out).mono ?_
  rintro e w' ⟨rfl, hr, ht⟩
  have H' := Lib.hid hr
  clear hr
  go_wp2
  go_ret
  exact ⟨rfl, ⟨f, H'.out⟩, ht⟩

set_option maxHeartbeats 400000 in
theorem push_full {s : Hd} {m : Nat} {p g n f : Nat} {x0 : Bool} {xs : List Bool} (x : Bool) {w : World} (hl : xs.length + 1 = n) (h : Is s m w p g n f (x0 :: xs)) :
    Calls Try.prog 30 #[.pointer (some ⟨p, 6, none⟩), .bool x] w (Pushes s m true p g n (xs ++ [x]) w) := by
  have H := Lib.hid h
  have HL := Lib.hid hl
  clear h hl
  go_enter Try.func30, Try.ntmps30
  go_wp2_with (fail)
  with_reducible refine (put_full x (by simpa using HL.out) H.out).mono ?_
  rintro e w' ⟨rfl, m, rfl⟩
  go_wp2_with (fail)
  with_reducible refine (take (H.out.drewN _)).mono ?_
  rintro e w1 ⟨rfl, ⟨f1, hr⟩, ht⟩
  have H1 := Lib.hid hr
  clear hr
  go_wp2_with (fail)
  with_reducible refine (put x (by have := HL.out; omega) H1.out).mono ?_
  rintro e w2 ⟨rfl, hr, ht2⟩
  have H2 := Lib.hid hr
  clear hr
  go_wp2
  go_ret
  exact ⟨rfl, ⟨f1, H2.out⟩, (((Turns.refl p g w).drewN _).trans ht).trans ht2⟩
end V
end Go.Proofs.Ythdjflmligoelaa
