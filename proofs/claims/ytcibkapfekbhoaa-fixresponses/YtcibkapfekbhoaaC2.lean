/- The walk of the statement on response times. -/
import Derived.Test.YtcibkapfekbhoaaAw
import Derived.Test.YtcibkapfekbhoaaGd
import Derived.Test.YtcibkapfekbhoaaRx
import Derived.Deep.DeepCutAuto
namespace Go.Proofs.Ytcibkapfekbhoaa
open Go.RowKit

set_option maxRecDepth 100000 in
set_option maxHeartbeats 8000000 in
theorem coreResponses (b : Int) (l : List Tk) (a : Option Addr) (cap : Nat) (i g : Int) (i0 : 0 ≤ i) (i1 : i ≤ 255) (g0 : 0 ≤ g) (g1 : g ≤ 4294967295) {w : World} (hm : l.length ≤ maxLen) (ht : Tasks w a cap l) :
    Calls Try.prog 4 #[.agg #[.int .i64 b, .slice a l.length cap], .int .u8 i, .int .u32 g] w (Woke w) := by
  have KA := Lib.hid (fun W => awake W)
  have HT := Lib.hid ht
  have HB0 := Lib.hid (SetBox.made w b a l.length cap)
  clear ht
  go_enter Try.func4, Try.ntmps4
  go_wp2_with (fail)
  with_reducible refine (KA.out _).mono ?_
  rintro e w1 ⟨rfl, hb1⟩
  have HB1 := Lib.hid (HB0.out.tells hb1)
  have KF := Lib.hid (small b l a cap hm (HT.out.below (Nat.le_refl _) HB1.out.below))
  clear hb1 HB0
  obtain ⟨s0, s1⟩ := HB1.out.cells
  go_wp2_with (fail)
  with_reducible refine KF.out.mono ?_
  rintro e w2 ⟨r, rfl, hb2, hf⟩
  have HB2 := Lib.hid (HB1.out.tells hb2)
  have KR := Lib.hid (refRight b l a cap hm (HT.out.below (Nat.le_refl _) HB2.out.below))
  clear hb2 s0 s1 HB1 KF
  obtain ⟨s0, s1⟩ := HB2.out.cells
  cases r
  · clear hf
    go_wp2_with (fail)
    with_reducible refine (KA.out _).mono ?_
    rintro e w9 ⟨rfl, hb9⟩
    have HB9 := Lib.hid (HB2.out.tells hb9)
    clear hb9
    go_wp2
    go_ret
    exact ⟨rfl, HB9.out.below⟩
  · have HF := Lib.hid (hf rfl)
    clear hf
    have hG := fun h => good_of (b := b) (l := l) (eq_of_beq h)
    generalize ((whyF b l).1 == 0) = rr at KR hG
    go_wp2_with (fail)
    with_reducible refine KR.out.mono ?_
    rintro e w3 ⟨rfl, hb3⟩
    have HB3 := Lib.hid (HB2.out.tells hb3)
    clear hb3 s0 s1 HB2 KR
    obtain ⟨s0, s1⟩ := HB3.out.cells
    cases rr
    · clear hG
      go_wp2_with (fail)
      with_reducible refine (KA.out _).mono ?_
      rintro e w9 ⟨rfl, hb9⟩
      have HB9 := Lib.hid (HB3.out.tells hb9)
      clear hb9
      go_wp2
      go_ret
      exact ⟨rfl, HB9.out.below⟩
    · have HG := Lib.hid (hG rfl)
      clear hG
      obtain ⟨k, hk, hke⟩ := place_of (i := i) HG.out.n0
      have hk16 := HG.out.n1
      obtain ⟨gp0, gp1⟩ := gap_of g
      have KK := Lib.hid (task b (a := a) (cap := cap) i0 i1 g0 g1 HG.out.n0 (by omega) hke w3)
      generalize 1 + g % 1049576 = gp at gp0 gp1 KK
      have HO : Hid (l[k]? = some l[k]) := Lib.hid (List.getElem?_eq_getElem hk)
      generalize l[k] = o at HO
      clear hke i0 i1 g0 g1 KA
      go_wp2_with (fail)
      with_reducible refine KK.out.mono ?_
      rintro e w4 ⟨rfl, hb4⟩
      have HB4 := Lib.hid (HB3.out.tells hb4)
      clear hb4 s0 s1 HB3 KK
      obtain ⟨s0, s1⟩ := HB4.out.cells
      have hfo := HG.out.fine o (List.mem_of_getElem? HO.out)
      have hD := (List.mem_of_getElem? HO.out)
      have hoD : 0 ≤ o.D := by have := hfo.times; omega
      obtain ⟨r, ok, hR⟩ := resp_is (next_mono (l := l) (o := o) HG.out.b0 HG.out.b1 gp0 HG.out.fine) (by have := next_range (w := 0) (o := o) (by omega) (by omega) HG.out.b0 HG.out.b1 gp0 HG.out.fine hfo (by omega); omega) o.D hoD
      have KP := Lib.hid (response b gp (by omega) HG.out.fine (HT.out.below (Nat.le_refl _) HB4.out.below) HO.out HG.out.b0 HG.out.b1 gp0 gp1 hR)
      have RP := Lib.hid (fun W (hW : Below w.heap.size w W) => refResponse b gp (by omega) HG.out.fine (HT.out.below (Nat.le_refl _) hW) HO.out HG.out.dist HG.out.b0 HG.out.b1 gp0 gp1 hR)
      clear HT HG HO HF hfo hD hoD hR
      go_wp2_with (fail)
      with_reducible refine KP.out.mono ?_
      rintro e w5 ⟨rfl, hb5⟩
      have HB5 := Lib.hid (HB4.out.tells hb5)
      clear hb5 s0 s1 HB4 KP
      obtain ⟨s0, s1⟩ := HB5.out.cells
      have RP' := Lib.hid (RP.out _ HB5.out.below)
      clear RP
      go_wp2_with (fail)
      with_reducible refine RP'.out.mono ?_
      rintro e w6 ⟨rfl, hb6⟩
      have HB6 := Lib.hid (HB5.out.tells hb6)
      clear hb6 s0 s1 HB5 RP'
      obtain ⟨s0, s1⟩ := HB6.out.cells
      cases ok <;>
      · go_wp2
        go_ret
        exact ⟨rfl, HB6.out.below⟩
end Go.Proofs.Ytcibkapfekbhoaa
