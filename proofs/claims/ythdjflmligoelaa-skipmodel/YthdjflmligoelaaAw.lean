/- The statements' own first question: the answers that the document fixes. -/
import Derived.Test.YthdjflmligoelaaOp
namespace Go.Proofs.Ythdjflmligoelaa
open Go.RowKit

set_option maxRecDepth 100000 in
set_option maxHeartbeats 4000000 in
theorem awake (w : World) : Calls Try.prog 7 #[] w (Woke w) := by
  have P1 : Pat 1 ((1 : Nat) : Int) ((2 : Nat) : Int) := ⟨.inl rfl, by omega, by omega, by omega⟩
  have K1 := Lib.hid (show Calls Try.prog 8 #[.int .i64 1, .int .i64 1, .int .i64 2] w (NewSkp 1 1 2 w) from new P1 w)
  have K2 := Lib.hid (fun W => show Calls Try.prog 8 #[.int .i64 1, .int .i64 3, .int .i64 2] W (Says (.tuple #[.pointer none, .int .i64 1]) W) from new_no 1 3 2 W rfl)
  clear P1
  go_enter Try.func7, Try.ntmps7
  go_wp2_with (fail)
  refine K1.out.mono ?_
  rintro e w1 ⟨p, g, rfl, hp, hg, hw, hb⟩
  have H1 := Lib.hid (Has.made (Below.refl _ _) hp hg hw hb)
  clear hp hg hw hb K1
  have M1 := Lib.hid (show Calls Try.prog 14 #[.pointer (some ⟨p, 0, none⟩)] w1 (Saw (.bool true) w1) from mustOf H1.out.skp)
  go_wp2_with (fail)
  refine (K2.out _).mono ?_
  rintro e w2 ⟨rfl, rfl⟩
  clear K2
  go_wp2_with (fail)
  with_reducible refine M1.out.mono ?_
  rintro e w2 ⟨rfl, q1, rfl⟩
  have H2 := Lib.hid (H1.out.drewN q1)
  clear H1 M1
  go_wp2_with (fail)
  with_reducible refine (went H2.out.skp (by omega) true).mono ?_
  rintro e w2 ⟨rfl, hw, ht⟩
  have H3 := Lib.hid (show Has w 1 1 2 1 0 p g [true, true] w2 from H2.out.turn hw ht)
  clear hw ht H2
  have M2 := Lib.hid (show Calls Try.prog 14 #[.pointer (some ⟨p, 0, none⟩)] w2 (Saw (.bool false) w2) from mustOf H3.out.skp)
  go_wp2_with (fail)
  with_reducible refine M2.out.mono ?_
  rintro e w3 ⟨rfl, q2, rfl⟩
  have H4 := Lib.hid (H3.out.drewN q2)
  clear H3 M2
  go_wp2_with (fail)
  with_reducible refine (went H4.out.skp (by omega) false).mono ?_
  rintro e w3 ⟨rfl, hw, ht⟩
  have H5 := Lib.hid (show Has w 1 1 2 2 0 p g [true, false] w3 from H4.out.turn hw ht)
  clear hw ht H4
  have M3 := Lib.hid (show Calls Try.prog 14 #[.pointer (some ⟨p, 0, none⟩)] w3 (Saw (.bool true) w3) from mustOf H5.out.skp)
  go_wp2_with (fail)
  with_reducible refine M3.out.mono ?_
  rintro e w4 ⟨rfl, q3, rfl⟩
  have H6 := Lib.hid (H5.out.drewN q3)
  clear H5 M3
  go_wp2_with (fail)
  with_reducible refine (went H6.out.skp (by omega) false).mono ?_
  rintro e w4 ⟨rfl, hw, ht⟩
  have H7 := Lib.hid (show Has w 1 1 2 3 1 p g [false, false] w4 from H6.out.turn hw ht)
  clear hw ht H6
  have KJ := Lib.hid (show Calls Try.prog 11 #[.pointer (some ⟨p, 0, none⟩)] w4 (Says (.int .i64 3) w4) from jobs H7.out.skp)
  have KF := Lib.hid (show Calls Try.prog 13 #[.pointer (some ⟨p, 0, none⟩)] w4 (Says (.int .i64 1) w4) from failed H7.out.skp)
  have KD := Lib.hid (show Calls Try.prog 12 #[.pointer (some ⟨p, 0, none⟩)] w4 (Saw (.int .i64 0) w4) from far H7.out.skp)
  have M4 := Lib.hid (fun q => show Calls Try.prog 14 #[.pointer (some ⟨p, 0, none⟩)] (w4.drewN q) (Saw (.bool true) (w4.drewN q)) from mustOf (H7.out.drewN q).skp)
  go_wp2_with (fail)
  with_reducible refine KJ.out.mono ?_
  rintro e w5 ⟨rfl, rfl⟩
  go_wp2_with (fail)
  with_reducible refine KF.out.mono ?_
  rintro e w5 ⟨rfl, rfl⟩
  go_wp2_with (fail)
  with_reducible refine KD.out.mono ?_
  rintro e w5 ⟨rfl, q4, rfl⟩
  go_wp2_with (fail)
  with_reducible refine (M4.out _).mono ?_
  rintro e w5 ⟨rfl, q5, rfl⟩
  go_wp2
  go_ret
  exact ⟨rfl, (H7.out.drewN _).below⟩
end Go.Proofs.Ythdjflmligoelaa
