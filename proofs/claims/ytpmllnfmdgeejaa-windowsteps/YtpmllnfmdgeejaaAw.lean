/- The statements' own first question: the answers that the document fixes. -/
import Derived.Test.YtpmllnfmdgeejaaOp
namespace Go.Proofs.Ytpmllnfmdgeejaa
open Go.RowKit

set_option maxRecDepth 100000 in
set_option maxHeartbeats 4000000 in
theorem awake (w : World) : Calls Try.prog 8 #[] w (Woke w) := by
  have K1 := Lib.hid (show Calls Try.prog 9 #[.int .i64 2, .int .i64 3] w (NewWin 2 3 w) from new (m := 2) (n := 3) w (by omega) (by omega) (by omega))
  have K2 := Lib.hid (fun W => show Calls Try.prog 9 #[.int .i64 3, .int .i64 2] W (Says (.tuple #[.pointer none, .int .i64 1]) W) from new_no 3 2 W (by omega))
  go_enter Try.func8, Try.ntmps8
  go_wp2_with (fail)
  refine K1.out.mono ?_
  rintro e w1 ⟨p, g, rfl, hp, hg, hw, hb⟩
  have H1 := Lib.hid (Has.made (Below.refl _ _) hp hg hw hb)
  clear hp hg hw hb K1
  have KD1 := Lib.hid (show Calls Try.prog 15 #[.pointer (some ⟨p, 0, none⟩)] w1 (Saw (.int .i64 2) w1) from distance H1.out.win)
  go_wp2_with (fail)
  refine (K2.out _).mono ?_
  rintro e w2 ⟨rfl, rfl⟩
  clear K2
  go_wp2_with (fail)
  with_reducible refine KD1.out.mono ?_
  rintro e w2 ⟨rfl, q1, rfl⟩
  have H2 := Lib.hid (H1.out.drewN q1)
  clear H1 KD1
  go_wp2_with (fail)
  with_reducible refine (push H2.out.win false).mono ?_
  rintro e w2 ⟨rfl, hw, ht⟩
  have H3 := Lib.hid (show Has w 2 p g 3 [true, true, false] w2 from H2.out.turn hw ht)
  clear hw ht H2
  have KD2 := Lib.hid (show Calls Try.prog 15 #[.pointer (some ⟨p, 0, none⟩)] w2 (Saw (.int .i64 1) w2) from distance H3.out.win)
  go_wp2_with (fail)
  with_reducible refine KD2.out.mono ?_
  rintro e w3 ⟨rfl, q2, rfl⟩
  have H4 := Lib.hid (H3.out.drewN q2)
  clear H3 KD2
  go_wp2_with (fail)
  with_reducible refine (push H4.out.win false).mono ?_
  rintro e w3 ⟨rfl, hw, ht⟩
  have H5 := Lib.hid (show Has w 2 p g 3 [true, false, false] w3 from H4.out.turn hw ht)
  clear hw ht H4
  have KD3 := Lib.hid (show Calls Try.prog 15 #[.pointer (some ⟨p, 0, none⟩)] w3 (Saw (.int .i64 0) w3) from distance H5.out.win)
  have KF := Lib.hid (fun q => show Calls Try.prog 14 #[.pointer (some ⟨p, 0, none⟩)] (w3.drewN q) (Saw (.bool true) (w3.drewN q)) from fails (H5.out.drewN q).win)
  have KM := Lib.hid (fun q => show Calls Try.prog 12 #[.pointer (some ⟨p, 0, none⟩)] (w3.drewN q) (Saw (.int .i64 1) (w3.drewN q)) from met (H5.out.drewN q).win)
  have KL := Lib.hid (fun q => lasts (H5.out.drewN q).win)
  go_wp2_with (fail)
  with_reducible refine KD3.out.mono ?_
  rintro e w4 ⟨rfl, q3, rfl⟩
  go_wp2_with (fail)
  with_reducible refine (KF.out _).mono ?_
  rintro e w4 ⟨rfl, q4, rfl⟩
  go_wp2_with (fail)
  with_reducible refine (KM.out _).mono ?_
  rintro e w4 ⟨rfl, q5, rfl⟩
  go_wp2_with (fail)
  with_reducible refine (KL.out _).mono ?_
  rintro e w4 ⟨b, cap, rfl, ho, hb⟩
  have HB := Lib.hid ((H5.out.drewN _).tells hb).below
  clear ho hb
  go_wp2
  go_ret
  exact ⟨rfl, HB.out⟩
end Go.Proofs.Ytpmllnfmdgeejaa
