/- The walk of the statement on the recurrence. -/
import Derived.Test.YtcibkapfekbhoaaAw
import Derived.Test.YtcibkapfekbhoaaGd
import Derived.Test.YtcibkapfekbhoaaRx
import Derived.Test.YtcibkapfekbhoaaFw
import Derived.Lib.QuietBelow
import Derived.Deep.DeepCutAuto
namespace Go.Proofs.Ytcibkapfekbhoaa
open Go.RowKit

set_option maxRecDepth 100000 in
set_option maxHeartbeats 8000000 in
theorem coreNext (b : Int) (l : List Tk) (a : Option Addr) (cap : Nat) (i g v : Int) (i0 : 0 ≤ i) (i1 : i ≤ 255) (g0 : 0 ≤ g) (g1 : g ≤ 4294967295) (v0 : 0 ≤ v) {w : World} (hm : l.length ≤ maxLen) (ht : Tasks w a cap l) :
    Calls Try.prog 3 #[.agg #[.int .i64 b, .slice a l.length cap], .int .u8 i, .int .u32 g, .int .u32 v] w (Woke w) := by
  have KA := Lib.hid (fun W => awake W)
  have HT := Lib.hid ht
  have HB0 := Lib.hid (SetBox.made w b a l.length cap)
  clear ht
  go_enter Try.func3, Try.ntmps3
  go_wp2_with (fail)
  with_reducible refine (KA.out _).mono ?_
  rintro e w1 ⟨rfl, hb1⟩
  have HB1 := Lib.hid (HB0.out.tells hb1)
  have KF := Lib.hid (few b l a cap hm (HT.out.below (Nat.le_refl _) HB1.out.below))
  clear hb1 HB0
  obtain ⟨s0, s1⟩ := HB1.out.cells
  go_wp2_with (fail)
  with_reducible refine KF.out.mono ?_
  rintro e w2 ⟨r, rfl, hb2, hf⟩
  have HB2 := Lib.hid (HB1.out.tells hb2)
  have KR := Lib.hid (refRight b l a cap hm (HT.out.below (Nat.le_refl _) HB2.out.below))
  clear hb2 s0 s1 HB1 KF
  obtain ⟨s0, s1⟩ := HB2.out.cells
  cases r
  · clear hf
    go_wp2_with (fail)
    with_reducible refine (KA.out _).mono ?_
    rintro e w9 ⟨rfl, hb9⟩
    have HB9 := Lib.hid (HB2.out.tells hb9)
    clear hb9
    go_wp2
    go_ret
    exact ⟨rfl, HB9.out.below⟩
  · have HF := Lib.hid (hf rfl)
    clear hf
    have hG := fun h => good_of (b := b) (l := l) (eq_of_beq h)
    generalize ((whyF b l).1 == 0) = rr at KR hG
    go_wp2_with (fail)
    with_reducible refine KR.out.mono ?_
    rintro e w3 ⟨rfl, hb3⟩
    have HB3 := Lib.hid (HB2.out.tells hb3)
    clear hb3 s0 s1 HB2 KR
    obtain ⟨s0, s1⟩ := HB3.out.cells
    cases rr
    · clear hG
      go_wp2_with (fail)
      with_reducible refine (KA.out _).mono ?_
      rintro e w9 ⟨rfl, hb9⟩
      have HB9 := Lib.hid (HB3.out.tells hb9)
      clear hb9
      go_wp2
      go_ret
      exact ⟨rfl, HB9.out.below⟩
    · have HG := Lib.hid (hG rfl)
      clear hG
      obtain ⟨k, hk, hke⟩ := place_of (i := i) HG.out.n0
      have hk16 := HG.out.n1
      obtain ⟨gp0, gp1⟩ := gap_of g
      have KK := Lib.hid (task b (a := a) (cap := cap) i0 i1 g0 g1 HG.out.n0 (by omega) hke w3)
      generalize 1 + g % 1049576 = gp at gp0 gp1 KK
      have HO : Hid (l[k]? = some l[k]) := Lib.hid (List.getElem?_eq_getElem hk)
      generalize l[k] = o at HO
      clear hke i0 i1 g0 g1 KA
      go_wp2_with (fail)
      with_reducible refine KK.out.mono ?_
      rintro e w4 ⟨rfl, hb4⟩
      have HB4 := Lib.hid (HB3.out.tells hb4)
      clear hb4 s0 s1 HB3 KK
      obtain ⟨s0, s1⟩ := HB4.out.cells
      obtain ⟨x, hx⟩ : ∃ x, x = v % 1048577 := ⟨_, rfl⟩
      have x0 : 0 ≤ x := by rw [hx]; exact Int.emod_nonneg _ (by omega)
      have x1 : x ≤ 1048576 := by have := Int.emod_lt_of_pos v (show (0 : Int) < 1048577 by omega); omega
      have tx : v.tmod 1048577 = x := by rw [hx, Int.tmod_eq_emod_of_nonneg v0]
      have KN := Lib.hid (nextP b gp x (by omega) HG.out.fine (HT.out.below (Nat.le_refl _) HB4.out.below) HO.out HG.out.b0 HG.out.b1 gp0 gp1 x0 x1)
      have KD := Lib.hid (fun W (hW : Below w.heap.size w W) => dear b (by omega) HG.out.fine (HT.out.below (Nat.le_refl _) hW) HO.out)
      have KA := Lib.hid (fun W (hW : Below w.heap.size w W) => ahead b (by omega) HG.out.fine (HT.out.below (Nat.le_refl _) hW) HO.out)
      have RD := Lib.hid (fun W (hW : Below w.heap.size w W) => refDear b (by omega) HG.out.fine (HT.out.below (Nat.le_refl _) hW) HO.out HG.out.dist)
      have RA := Lib.hid (fun W (hW : Below w.heap.size w W) => refAhead b (by omega) HG.out.fine (HT.out.below (Nat.le_refl _) hW) HO.out HG.out.dist)
      have RN := Lib.hid (fun W (hW : Below w.heap.size w W) => refNext b gp x (by omega) HG.out.fine (HT.out.below (Nat.le_refl _) hW) HO.out HG.out.dist HG.out.b0 HG.out.b1 gp0 gp1 x0 x1)
      clear HT HG HO HF hx
      generalize maxE (dearQ o.Prio) l = D at KD RD
      generalize maxE (aheadQ o.Prio) l = A at KA RA
      generalize nextV b l o gp x = N at KN RN
      clear o
      go_wp2_with (fail)
      with_reducible refine KN.out.mono ?_
      rintro e w5 ⟨rfl, hb5⟩
      have HB5 := Lib.hid (HB4.out.tells hb5)
      clear hb5 s0 s1 HB4 KN
      obtain ⟨s0, s1⟩ := HB5.out.cells
      go_upto_region 6 with fail
      obtain ⟨Y, hY⟩ : ∃ Y, Y = w5 := ⟨_, rfl⟩
      have k_s0 := cell_regrown s0
      have k_s1 := cell_regrown s1
      have hb := fun d os => HB5.out.below.trans ((below_regrown w5 d os).mono HB5.out.below.size)
      have c1 := fun d os => Calls.regrown_of (w := w5) (d := d) (os := os) (v := .int .i64 D) (KD.out _ (hb d os))
      have c2 := fun d os => Calls.regrown_of (w := w5) (d := d) (os := os) (v := .int .i64 A) (KA.out _ (hb d os))
      have c3 := fun d os => Calls.regrown_of (w := w5) (d := d) (os := os) (v := .int .i64 D) (RD.out _ (hb d os))
      have c4 := fun d os => Calls.regrown_of (w := w5) (d := d) (os := os) (v := .int .i64 A) (RA.out _ (hb d os))
      have c5 := fun d os => Calls.regrown_of (w := w5) (d := d) (os := os) (v := .int .i64 N) (RN.out _ (hb d os))
      clear KD KA RD RA RN hb hY Y
      refine wp_region_quiet_below (by kernel_rfl) (by kernel_rfl) ?_
      repeat (go_big_quiet_step (with_reducible first | exact c1 _ _ | exact c2 _ _ | exact c3 _ _ | exact c4 _ _ | exact c5 _ _))
      refine wpQuiet_nil ?_
      intro Z hw'
      obtain ⟨⟨dq, osq⟩, hw''⟩ := hw'
      have hbb := below_regrown w5 dq osq
      dsimp only at hw''
      rw [← hw''] at hbb
      have HB6 := Lib.hid (HB5.out.tells hbb)
      clear hbb hw'' k_s0 k_s1 c1 c2 c3 c4 c5 s0 s1 HB5
      go_wp2
      go_ret
      exact ⟨rfl, HB6.out.below⟩
end Go.Proofs.Ytcibkapfekbhoaa
