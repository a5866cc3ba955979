/- The statements' own parts: made by appends. -/
import Derived.Test.YtbofpbochgoafaaPt
namespace Go.Proofs.Ytbofpbochgoafaa
open Go.RowKit

theorem pl_one {d c : Int} : pl d c d 1 = [d + c] := by
  have : pf d c d 0 = d + c := by unfold pf; simp
  simp [pl, List.range_succ, this]
def MadeRel (s c d : Int) (B : Nat) (W0 : World) (v X : Value) (W : World) : Prop :=
  ∃ (k : Nat) (e : Int), v = .int .i64 e ∧ e = d - (k : Int) * s ∧ 1 ≤ e ∧ W.ownsRow B 3 1 X k (cellsI (pl s c d k)) ∧ Below B W0 W
theorem places_few {k : Nat} {s d e : Int} (hs : 1 ≤ s) (he : e = d - (k : Int) * s) (h1 : 1 ≤ e) : (k : Int) ≤ d := by
  have := Int.mul_le_mul_of_nonneg_left (a := 1) (b := s) (c := (k : Int)) hs (by omega)
  omega
end Go.Proofs.Ytbofpbochgoafaa
