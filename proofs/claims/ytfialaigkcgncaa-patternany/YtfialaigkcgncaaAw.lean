/- The statements' own first question: the answers that the document fixes. -/
import Derived.Test.YtfialaigkcgncaaRw
namespace Go.Proofs.Ytfialaigkcgncaa
open Go.RowKit Nu

/-- It answers true; of what was there nothing has turned. -/
def Woke (w : World) (e : Ending) (w' : World) : Prop := e = .returned (.bool true) ∧ Below w.heap.size w w'
theorem below_drew {w w' : World} {B : Nat} (h : Below B w w') (n : Nat) : Below B w (w'.drewN n) := ⟨h.os, h.tape, h.output, h.size, h.block⟩

set_option maxRecDepth 100000 in
set_option maxHeartbeats 4000000 in
theorem awake (w : World) : Calls Try.prog 8 #[] w (Woke w) := by
  have P1 : Pat 1 2 3 := ⟨.inl rfl, by omega, by omega, by omega⟩
  have P2 : Pat 2 2 4 := ⟨.inr rfl, by omega, by omega, by omega⟩
  have P3 : Pat 1 2 4 := ⟨.inl rfl, by omega, by omega, by omega⟩
  have KW := Lib.hid (row (K := 4) w P2)
  have KR1 := Lib.hid (fun W => show Calls Try.prog 9 #[.int .i64 1, .int .i64 2, .int .i64 3] W (Says (.bool true) W) from rightAny 1 2 3 W)
  have KR2 := Lib.hid (fun W => show Calls Try.prog 9 #[.int .i64 3, .int .i64 2, .int .i64 3] W (Says (.bool false) W) from rightAny 3 2 3 W)
  have KM1 := Lib.hid (fun W => show Calls Try.prog 13 #[.int .i64 1, .int .i64 0, .int .i64 2, .int .i64 3] W (Saw (.bool true) W) from mustAt P1 0 W (by omega) (by omega))
  have KM2 := Lib.hid (fun W => show Calls Try.prog 13 #[.int .i64 1, .int .i64 1, .int .i64 2, .int .i64 3] W (Saw (.bool true) W) from mustAt P1 1 W (by omega) (by omega))
  have KM3 := Lib.hid (fun W => show Calls Try.prog 13 #[.int .i64 1, .int .i64 2, .int .i64 2, .int .i64 3] W (Saw (.bool false) W) from mustAt P1 2 W (by omega) (by omega))
  have KC := Lib.hid (fun W => show Calls Try.prog 11 #[.int .i64 1, .int .i64 4, .int .i64 2, .int .i64 4] W (Saw (.int .i64 2) W) from count P3 4 W (by omega) (by omega))
  clear P1 P2 P3
  go_enter Try.func8, Try.ntmps8
  go_wp2_with (fail)
  refine KW.out.mono ?_
  rintro e w1 ⟨b, rfl, hb, hr, hbel⟩
  have x1 : w1.cell? ⟨b, 1, none⟩ = some (.bool true) := hr.cell (i := 1) (by omega)
  have x2 : w1.cell? ⟨b, 2, none⟩ = some (.bool false) := hr.cell (i := 2) (by omega)
  have HB := Lib.hid hbel
  clear hr hbel KW
  go_wp2_with (fail)
  with_reducible refine (KR1.out _).mono ?_
  rintro e w2 ⟨rfl, rfl⟩
  go_wp2_with (fail)
  with_reducible refine (KR2.out _).mono ?_
  rintro e w2 ⟨rfl, rfl⟩
  go_wp2_with (fail)
  with_reducible refine (KM1.out _).mono ?_
  rintro e w2 ⟨rfl, q1, rfl⟩
  go_wp2_with (fail)
  with_reducible refine (KM2.out _).mono ?_
  rintro e w2 ⟨rfl, q2, rfl⟩
  go_wp2_with (fail)
  with_reducible refine (KM3.out _).mono ?_
  rintro e w2 ⟨rfl, q3, rfl⟩
  go_wp2_with (fail)
  with_reducible refine (KC.out _).mono ?_
  rintro e w2 ⟨rfl, q4, rfl⟩
  go_wp2
  go_ret
  exact ⟨rfl, below_drew HB.out _⟩
end Go.Proofs.Ytfialaigkcgncaa
