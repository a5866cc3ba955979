/- The walk of the statement on whatever set. -/
import Derived.Test.YtkldpbehjbecnaaAw
import Derived.Test.YtkldpbehjbecnaaRx
import Derived.Test.YtkldpbehjbecnaaOp
namespace Go.Proofs.Ytkldpbehjbecnaa
open Go.RowKit

set_option maxRecDepth 100000 in
set_option maxHeartbeats 4000000 in
theorem coreRight (b : Int) (l : List Tk) (a : Option Addr) (cap : Nat) {w : World} (hm : l.length ≤ maxLen) (ht : Tasks w a cap l) :
    Calls Try.prog 3 #[.agg #[.int .i64 b, .slice a l.length cap]] w (Woke w) := by
  have HT := Lib.hid ht
  have HM := Lib.hid hm
  have HB0 := Lib.hid (below_new w (.cells #[.int .i64 b, .slice a l.length cap] 24))
  have HX0 := Lib.hid (Lies.made w 24 #[.int .i64 b, .slice a l.length cap])
  clear ht hm
  go_enter Try.func3, Try.ntmps3
  go_wp2_with (fail)
  refine (awake _).mono ?_
  rintro e w1 ⟨rfl, hb1⟩
  have HB1 := Lib.hid (HB0.out.trans (hb1.mono HB0.out.size))
  have HX1 := Lib.hid (HX0.out.below hb1 HX0.out.lt)
  clear hb1
  have y0 : w1.cell? ⟨w.heap.size, 0, none⟩ = some (.int .i64 b) := HX1.out.cell 0
  have y1 : w1.cell? ⟨w.heap.size, 1, none⟩ = some (.slice a l.length cap) := HX1.out.cell 1
  have KF := Lib.hid (few b l a cap HM.out (HT.out.below (Nat.le_refl _) HB1.out))
  go_wp2_with (fail)
  with_reducible refine KF.out.mono ?_
  rintro e w2 ⟨fb, rfl, hb2, hf⟩
  have HB2 := Lib.hid (HB1.out.trans (hb2.mono HB1.out.size))
  have HX2 := Lib.hid (HX1.out.below hb2 HX1.out.lt)
  clear hb2 hf y0 y1 HB0 HX0 HB1 HX1 KF
  cases fb with
  | false =>
    go_wp2_with (fail)
    refine (awake _).mono ?_
    rintro e w3 ⟨rfl, hb3⟩
    have HB3 := Lib.hid (HB2.out.trans (hb3.mono HB2.out.size))
    clear hb3
    go_wp2
    go_ret
    exact ⟨rfl, HB3.out⟩
  | true =>
    have y0 : w2.cell? ⟨w.heap.size, 0, none⟩ = some (.int .i64 b) := HX2.out.cell 0
    have y1 : w2.cell? ⟨w.heap.size, 1, none⟩ = some (.slice a l.length cap) := HX2.out.cell 1
    have K1 := Lib.hid (why b l a cap HM.out (HT.out.below (Nat.le_refl _) HB2.out))
    go_wp2_with (fail)
    with_reducible refine K1.out.mono ?_
    rintro e w3 ⟨rfl, hb3⟩
    have HB3 := Lib.hid (HB2.out.trans (hb3.mono HB2.out.size))
    have HX3 := Lib.hid (HX2.out.below hb3 HX2.out.lt)
    clear hb3 y0 y1 K1 HB2 HX2
    have y0 : w3.cell? ⟨w.heap.size, 0, none⟩ = some (.int .i64 b) := HX3.out.cell 0
    have y1 : w3.cell? ⟨w.heap.size, 1, none⟩ = some (.slice a l.length cap) := HX3.out.cell 1
    have K2 := Lib.hid (refWhy b l a cap HM.out (HT.out.below (Nat.le_refl _) HB3.out))
    go_wp2_with (fail)
    with_reducible refine K2.out.mono ?_
    rintro e w4 ⟨rfl, hb4⟩
    have HB4 := Lib.hid (HB3.out.trans (hb4.mono HB3.out.size))
    have HX4 := Lib.hid (HX3.out.below hb4 HX3.out.lt)
    clear hb4 y0 y1 K2 HB3 HX3
    have y0 : w4.cell? ⟨w.heap.size, 0, none⟩ = some (.int .i64 b) := HX4.out.cell 0
    have y1 : w4.cell? ⟨w.heap.size, 1, none⟩ = some (.slice a l.length cap) := HX4.out.cell 1
    have K3 := Lib.hid (right b l a cap HM.out (HT.out.below (Nat.le_refl _) HB4.out))
    generalize whyF b l = p at K3 ⊢
    go_wp2_with (fail)
    with_reducible refine K3.out.mono ?_
    rintro e w5 ⟨rfl, hb5⟩
    have HB5 := Lib.hid (HB4.out.trans (hb5.mono HB4.out.size))
    clear hb5
    go_wp2
    go_ret
    exact ⟨rfl, HB5.out⟩
end Go.Proofs.Ytkldpbehjbecnaa
