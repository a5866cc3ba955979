/- The statements' own first look at the program (fixed answers), as a contract: it says true, and only makes new memory. -/
import Derived.Test.YtnegmgnoohedlaaIE
import Derived.Test.YtnegmgnoohedlaaSA
namespace Go.Proofs.Ytnegmgnoohedlaa
open Go.RowKit

/-- 'true', and nothing that was there has turned. -/
def Woke (w : World) (e : Ending) (w' : World) : Prop := e = .returned (.bool true) ∧ Below w.heap.size w w'

set_option maxHeartbeats 1000000 in
theorem awake (w : World) : Calls Try.prog 8 #[] w (Woke w) := by
  go_enter Try.func8, Try.ntmps8
  go_wp2_with (fail)
  refine (I.new 1 _ (by omega) (by omega)).mono ?_
  rintro e w1 ⟨p, g, rfl, hp, hg, hr, hb⟩
  have H1 := Lib.hid hr
  clear hr
  go_wp2_with (fail)
  refine (S.new_no 0 _ (by omega)).mono ?_
  rintro e w' ⟨rfl, rfl⟩
  go_wp2_with (fail)
  refine (I.put 5 (by simp) H1.out).mono ?_
  rintro e w2 ⟨rfl, hr, ht2⟩
  have H2 := Lib.hid hr
  clear hr
  go_wp2_with (fail)
  refine (I.put_full 6 (by simp) H2.out).mono ?_
  rintro e w' ⟨rfl, m, rfl⟩
  go_wp2_with (fail)
  refine (I.push_full (xs := []) 7 (by simp) (H2.out.drewN _)).mono ?_
  rintro e w3 ⟨rfl, ⟨f3, hr⟩, ht3⟩
  have H3 := Lib.hid hr
  clear hr
  go_wp2_with (fail)
  refine (I.take (x := 7) (xs := []) H3.out).mono ?_
  rintro e w4 ⟨rfl, ⟨f4, hr⟩, ht4⟩
  have H4 := Lib.hid hr
  clear hr
  go_wp2_with (fail)
  refine (I.size H4.out).mono ?_
  rintro e w' ⟨rfl, rfl⟩
  go_wp2
  go_ret
  have ht := ((ht2.drewN m).trans ht3).trans ht4
  exact ⟨rfl, hb.trans (ht.below hp hg hb.size)⟩
end Go.Proofs.Ytnegmgnoohedlaa
