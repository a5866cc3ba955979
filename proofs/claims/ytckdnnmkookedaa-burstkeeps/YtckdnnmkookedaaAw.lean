/- Answers that the document fixes. -/
import Derived.Test.YtckdnnmkookedaaRt
import Derived.Test.YtckdnnmkookedaaGp
namespace Go.Proofs.Ytckdnnmkookedaa
open Go.RowKit

theorem three_small : ∀ x ∈ [(3 : Int), 4, 9], 0 ≤ x ∧ x ≤ 1099511627776 := by decide
set_option maxRecDepth 100000 in
set_option maxHeartbeats 4000000 in
theorem awake (w : World) : Calls Try.prog 9 #[] w (Woke w) := by
  obtain ⟨X, hX⟩ : ∃ X, X = w.alloc (.cells #[.int .i64 3, .int .i64 4, .int .i64 9] 3) := ⟨_, rfl⟩
  have hI : Ints X (some ⟨w.heap.size, 0, none⟩) 3 [3, 4, 9] := by rw [hX]; exact lit_ints w [3, 4, 9]
  have hB : Below w.heap.size w X := by rw [hX]; exact below_new _ _
  have HB := Lib.hid hB
  have HI := Lib.hid hI
  have KS : Hid (Calls Try.prog 14 #[.slice (some ⟨w.heap.size, 0, none⟩) 3 3, .int .i64 2] X (NewInts [3, 9] X)) := Lib.hid (starts (l := [3, 4, 9]) 2 hI rfl (by decide) three_small (by decide) (by decide))
  have KL : Hid (∀ W, Below X.heap.size X W → Calls Try.prog 16 #[.slice (some ⟨w.heap.size, 0, none⟩) 3 3, .int .i64 2, .int .i64 6] W (Gives (.bool true) W)) := Lib.hid (fun W hb => legal (l := [3, 4, 9]) 2 6 (hI.tells hb) rfl (by decide) three_small (by decide) (by decide) (by decide) (by decide))
  have KN : Hid (∀ W, Below X.heap.size X W → Calls Try.prog 16 #[.slice (some ⟨w.heap.size, 0, none⟩) 3 3, .int .i64 2, .int .i64 7] W (Gives (.bool false) W)) := Lib.hid (fun W hb => legal (l := [3, 4, 9]) 2 7 (hI.tells hb) rfl (by decide) three_small (by decide) (by decide) (by decide) (by decide))
  have KG : Hid (∀ W, Below X.heap.size X W → Calls Try.prog 12 #[.slice (some ⟨w.heap.size, 0, none⟩) 3 3, .int .i64 2] W (Gives (.int .i64 6) W)) := Lib.hid (fun W hb => gap (l := [3, 4, 9]) 2 (hI.tells hb) rfl (by decide) three_small (by decide) (by decide))
  have KM : Hid (∀ W, Calls Try.prog 19 #[.int .i64 0, .int .i64 2, .int .i64 5] W (Says (.int .i64 0) W)) := Lib.hid (fun W => most 0 2 5 W (by decide) (by decide) (by decide) (by decide) (by decide) (by decide))
  have KM5 : Hid (∀ W, Calls Try.prog 19 #[.int .i64 5, .int .i64 2, .int .i64 5] W (Says (.int .i64 2) W)) := Lib.hid (fun W => most 5 2 5 W (by decide) (by decide) (by decide) (by decide) (by decide) (by decide))
  have KI : Hid (∀ W, Below X.heap.size X W → Calls Try.prog 18 #[.slice (some ⟨w.heap.size, 0, none⟩) 3 3, .int .i64 4, .int .i64 9] W (Says (.int .i64 1) W)) := Lib.hid (fun W hb => in_ (l := [3, 4, 9]) 4 9 (hI.tells hb) rfl (by decide))
  clear hI hB
  go_enter Try.func9, Try.ntmps9
  go_wp2_with (fail)
  rw [← hX]
  clear hX
  with_reducible refine KS.out.mono ?_
  rintro e w1 ⟨v, rfl, ho, hb1⟩
  obtain ⟨_, A2, c2, rfl, hI2⟩ := own_ints ho
  have HB1 := Lib.hid hb1
  obtain ⟨Y, hY⟩ : ∃ Y, Y = w1.alloc (.cells #[.int .i64 3, .int .i64 9] 3) := ⟨_, rfl⟩
  have HJ : Hid (Ints Y (some ⟨w1.heap.size, 0, none⟩) 2 [3, 9]) := Lib.hid (by rw [hY]; exact lit_ints w1 [3, 9])
  have HJ2 : Hid (Ints Y A2 c2 [3, 9]) := Lib.hid (by rw [hY]; exact hI2.alloc _)
  have HB2 : Hid (Below X.heap.size X Y) := Lib.hid (by rw [hY]; exact HB1.out.alloc HB1.out.size _)
  have KE : Hid (Calls Try.prog 13 #[.slice A2 2 c2, .slice (some ⟨w1.heap.size, 0, none⟩) 2 2] Y (Saw (.bool true) Y)) := Lib.hid (refSame (l := [3, 9]) rfl (by decide) HJ2.out HJ.out)
  clear ho hb1 hI2 HB1
  go_wp2_with (fail)
  rw [← hY]
  clear hY
  with_reducible refine KE.out.mono ?_
  rintro e w2 ⟨rfl, m, rfl⟩
  have HB3 := Lib.hid (below_drewN HB2.out m)
  go_wp2_with (fail)
  with_reducible refine (KL.out _ HB3.out).mono ?_
  rintro e w3 ⟨rfl, hb3⟩
  have HB4 := Lib.hid (HB3.out.trans (hb3.mono HB3.out.size))
  clear hb3
  go_wp2_with (fail)
  with_reducible refine (KN.out _ HB4.out).mono ?_
  rintro e w4 ⟨rfl, hb4⟩
  have HB5 := Lib.hid (HB4.out.trans (hb4.mono HB4.out.size))
  clear hb4
  go_wp2_with (fail)
  with_reducible refine (KG.out _ HB5.out).mono ?_
  rintro e w5 ⟨rfl, hb5⟩
  have HB6 := Lib.hid (HB5.out.trans (hb5.mono HB5.out.size))
  clear hb5
  go_wp2_with (fail)
  with_reducible refine (KM.out _).mono ?_
  rintro e w6 ⟨rfl, rfl⟩
  go_wp2_with (fail)
  with_reducible refine (KM5.out _).mono ?_
  rintro e w7 ⟨rfl, rfl⟩
  go_wp2_with (fail)
  with_reducible refine (KI.out _ HB6.out).mono ?_
  rintro e w8 ⟨rfl, rfl⟩
  go_wp2
  go_ret
  exact ⟨rfl, HB.out.trans (HB6.out.mono HB.out.size)⟩
end Go.Proofs.Ytckdnnmkookedaa
