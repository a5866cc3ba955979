/- Contracts of a ring of numbers: what is pushed; the i-th; all. -/
import Derived.Test.YtnegmgnoohedlaaIC
namespace Go.Proofs.Ytnegmgnoohedlaa
open Go.RowKit

namespace I
/-- It tells b, and the ring's list is xs. -/
def Pushes (b : Bool) (p g n : Nat) (xs : List Int) (w : World) (e : Ending) (w' : World) : Prop :=
  e = .returned (.bool b) ∧ (∃ f, Is w' p g n f xs) ∧ Turns p g w w'

set_option maxHeartbeats 400000 in
theorem push_room {p g n f : Nat} {xs : List Int} (x : Int) {w : World} (hl : xs.length < n) (h : Is w p g n f xs) :
    Calls Try.prog 11 #[.pointer (some ⟨p, 0, none⟩), .int .i64 x] w (Pushes false p g n (xs ++ [x]) w) := by
  have H := Lib.hid h
  clear h
  go_enter Try.func11, Try.ntmps11
  go_wp2_with (fail)
  with_reducible refine (put x hl H.out).mono ?_
  rintro e w' ⟨rfl, hr, ht⟩
  have H' := Lib.hid hr
  clear hr
  go_wp2
  go_ret
  exact ⟨rfl, ⟨f, H'.out⟩, ht⟩

set_option maxHeartbeats 400000 in
theorem push_full {p g n f : Nat} {x0 : Int} {xs : List Int} (x : Int) {w : World} (hl : xs.length + 1 = n) (h : Is w p g n f (x0 :: xs)) :
    Calls Try.prog 11 #[.pointer (some ⟨p, 0, none⟩), .int .i64 x] w (Pushes true p g n (xs ++ [x]) w) := by
  have H := Lib.hid h
  have HL := Lib.hid hl
  clear h hl
  go_enter Try.func11, Try.ntmps11
  go_wp2_with (fail)
  with_reducible refine (put_full x (by simpa using HL.out) H.out).mono ?_
  rintro e w' ⟨rfl, m, rfl⟩
  go_wp2_with (fail)
  with_reducible refine (take (H.out.drewN _)).mono ?_
  rintro e w1 ⟨rfl, ⟨f1, hr⟩, ht⟩
  have H1 := Lib.hid hr
  clear hr
  go_wp2_with (fail)
  with_reducible refine (put x (by have := HL.out; omega) H1.out).mono ?_
  rintro e w2 ⟨rfl, hr, ht2⟩
  have H2 := Lib.hid hr
  clear hr
  go_wp2
  go_ret
  exact ⟨rfl, ⟨f1, H2.out⟩, (((Turns.refl p g w).drewN _).trans ht).trans ht2⟩
end I
end Go.Proofs.Ytnegmgnoohedlaa
