/- The walk of the statement on least times. -/
import Derived.Test.YtcibkapfekbhoaaAw
import Derived.Test.YtcibkapfekbhoaaGd
import Derived.Test.YtcibkapfekbhoaaRx
import Derived.Lib.QuietBelow
import Derived.Deep.DeepCutAuto
namespace Go.Proofs.Ytcibkapfekbhoaa
open Go.RowKit

set_option maxRecDepth 100000 in
set_option maxHeartbeats 8000000 in
theorem coreLeast (b : Int) (l : List Tk) (a : Option Addr) (cap : Nat) (i g v : Int) (i0 : 0 ≤ i) (i1 : i ≤ 255) (g0 : 0 ≤ g) (g1 : g ≤ 4294967295) (v0 : 0 ≤ v) (v1 : v ≤ 65535) {w : World} (hm : l.length ≤ maxLen) (ht : Tasks w a cap l) :
    Calls Try.prog 5 #[.agg #[.int .i64 b, .slice a l.length cap], .int .u8 i, .int .u32 g, .int .u16 v] w (Woke w) := by
  have KA := Lib.hid (fun W => awake W)
  have HT := Lib.hid ht
  have HB0 := Lib.hid (SetBox.made w b a l.length cap)
  clear ht
  go_enter Try.func5, Try.ntmps5
  go_wp2_with (fail)
  with_reducible refine (KA.out _).mono ?_
  rintro e w1 ⟨rfl, hb1⟩
  have HB1 := Lib.hid (HB0.out.tells hb1)
  have KF := Lib.hid (small b l a cap hm (HT.out.below (Nat.le_refl _) HB1.out.below))
  clear hb1 HB0
  obtain ⟨s0, s1⟩ := HB1.out.cells
  go_wp2_with (fail)
  with_reducible refine KF.out.mono ?_
  rintro e w2 ⟨r, rfl, hb2, hf⟩
  have HB2 := Lib.hid (HB1.out.tells hb2)
  have KR := Lib.hid (refRight b l a cap hm (HT.out.below (Nat.le_refl _) HB2.out.below))
  clear hb2 s0 s1 HB1 KF
  obtain ⟨s0, s1⟩ := HB2.out.cells
  cases r
  · clear hf
    go_wp2_with (fail)
    with_reducible refine (KA.out _).mono ?_
    rintro e w9 ⟨rfl, hb9⟩
    have HB9 := Lib.hid (HB2.out.tells hb9)
    clear hb9
    go_wp2
    go_ret
    exact ⟨rfl, HB9.out.below⟩
  · have HF := Lib.hid (hf rfl)
    clear hf
    have hG := fun h => good_of (b := b) (l := l) (eq_of_beq h)
    generalize ((whyF b l).1 == 0) = rr at KR hG
    go_wp2_with (fail)
    with_reducible refine KR.out.mono ?_
    rintro e w3 ⟨rfl, hb3⟩
    have HB3 := Lib.hid (HB2.out.tells hb3)
    clear hb3 s0 s1 HB2 KR
    obtain ⟨s0, s1⟩ := HB3.out.cells
    cases rr
    · clear hG
      go_wp2_with (fail)
      with_reducible refine (KA.out _).mono ?_
      rintro e w9 ⟨rfl, hb9⟩
      have HB9 := Lib.hid (HB3.out.tells hb9)
      clear hb9
      go_wp2
      go_ret
      exact ⟨rfl, HB9.out.below⟩
    · have HG := Lib.hid (hG rfl)
      clear hG
      obtain ⟨k, hk, hke⟩ := place_of (i := i) HG.out.n0
      have hk16 := HG.out.n1
      obtain ⟨gp0, gp1⟩ := gap_of g
      have KK := Lib.hid (task b (a := a) (cap := cap) i0 i1 g0 g1 HG.out.n0 (by omega) hke w3)
      generalize 1 + g % 1049576 = gp at gp0 gp1 KK
      have HO : Hid (l[k]? = some l[k]) := Lib.hid (List.getElem?_eq_getElem hk)
      generalize l[k] = o at HO
      clear hke i0 i1 g0 g1 KA
      go_wp2_with (fail)
      with_reducible refine KK.out.mono ?_
      rintro e w4 ⟨rfl, hb4⟩
      have HB4 := Lib.hid (HB3.out.tells hb4)
      clear hb4 s0 s1 HB3 KK
      obtain ⟨s0, s1⟩ := HB4.out.cells
      have hmem := List.mem_of_getElem? HO.out
      have hfo := HG.out.fine o hmem
      have hD3 := HF.out.2 o hmem
      have hoD : 1 ≤ o.D := by have := hfo.times; omega
      obtain ⟨r, ok, hR⟩ := resp_is (next_mono (l := l) (o := o) HG.out.b0 HG.out.b1 gp0 HG.out.fine) (by have := next_range (w := 0) (o := o) (by omega) (by omega) HG.out.b0 HG.out.b1 gp0 HG.out.fine hfo (by omega); omega) o.D (by omega)
      have KP := Lib.hid (response b gp (by omega) HG.out.fine (HT.out.below (Nat.le_refl _) HB4.out.below) HO.out HG.out.b0 HG.out.b1 gp0 gp1 hR)
      clear HF hmem
      go_wp2_with (fail)
      with_reducible refine KP.out.mono ?_
      rintro e w5 ⟨rfl, hb5⟩
      have HB5 := Lib.hid (HB4.out.tells hb5)
      clear hb5 s0 s1 HB4 KP
      obtain ⟨s0, s1⟩ := HB5.out.cells
      cases ok
      · obtain ⟨rfl, hno⟩ := hR.no
        clear hR
        obtain ⟨x, hx⟩ : ∃ x, x = v % (o.D + 1) := ⟨_, rfl⟩
        have xx0 : 0 ≤ x := by rw [hx]; exact Int.emod_nonneg _ (by omega)
        have xx1 : x ≤ o.D := by have := Int.emod_lt_of_pos v (show (0 : Int) < o.D + 1 by omega); omega
        have tx : v.tmod (o.D + 1) = x := by rw [hx, Int.tmod_eq_emod_of_nonneg v0]
        have hxn := hno x xx0 xx1
        have KN := Lib.hid (fun W (hW : Below w.heap.size w W) => nextP b gp x (by omega) HG.out.fine (HT.out.below (Nat.le_refl _) hW) HO.out HG.out.b0 HG.out.b1 gp0 gp1 xx0 (by omega))
        have t1 : decide (x < nextV b l o gp x) = true := decide_eq_true hxn
        have t2 : ((o.D + 1) == 0) = false := by simp; omega
        have t3 : ¬ (o.D + 1 = 0) := by omega
        have q1 : (0 : Int) ≤ (k : Int) := by omega
        have q2 : (k : Int) < (l.length : Int) := by omega
        clear hno hx hxn
        generalize nextV b l o gp x = N at KN t1
        have HTx := Lib.hid (HT.out.below (Nat.le_refl _) HB5.out.below)
        obtain ⟨bb, off, rfl, hbl, x0, x1, x2, x3, x4, x5, x6, x7, x8, x9, x10⟩ := HTx.out.cells HO.out
        clear HTx x0 x1 x3 x4 x5 x6 x7 x8 x9 x10
        clear HG HT
        go_upto_region 6 with fail
        have k_s0 := cell_regrown s0
        have k_s1 := cell_regrown s1
        have k_x2 := cell_regrown x2
        have hb := fun d os => HB5.out.below.trans ((below_regrown w5 d os).mono HB5.out.below.size)
        have c1 := fun d os => Calls.regrown_of (w := w5) (d := d) (os := os) (v := .tuple #[.int .i64 N, .bool true]) (KN.out _ (hb d os))
        clear KN hb
        refine wp_region_quiet_below (by kernel_rfl) (by kernel_rfl) ?_
        repeat (go_big_quiet_step (with_reducible first | exact c1 _ _))
        refine wpQuiet_nil ?_
        intro Z hw'
        obtain ⟨⟨dq, osq⟩, hw''⟩ := hw'
        have hbb := below_regrown w5 dq osq
        dsimp only at hw''
        rw [← hw''] at hbb
        have HB6 := Lib.hid (HB5.out.tells hbb)
        have x2' := (hbb.cell (p := ⟨bb, off + k * 11 + 2, none⟩) (block_lt_of_cell x2)).trans x2
        clear hbb hw'' k_s0 k_s1 k_x2 c1 s0 s1 HB5 x2
        obtain ⟨s0, s1⟩ := HB6.out.cells
        go_wp2
        go_ret
        exact ⟨rfl, HB6.out.below⟩
      · obtain ⟨r0, rD, hr, hlow⟩ := hR.at_
        clear hR
        have hF0 := (next_range (w := 0) (o := o) (g := gp) (by omega) (by omega) HG.out.b0 HG.out.b1 gp0 HG.out.fine hfo (by omega)).2.1
        have hmono := next_mono (l := l) (o := o) HG.out.b0 HG.out.b1 gp0 HG.out.fine
        have r1 : 1 ≤ r := by
          have := hmono 0 r (by omega) r0
          omega
        obtain ⟨x, hx⟩ : ∃ x, x = v % r := ⟨_, rfl⟩
        have xx0 : 0 ≤ x := by rw [hx]; exact Int.emod_nonneg _ (by omega)
        have xx1 : x < r := by rw [hx]; exact Int.emod_lt_of_pos v (by omega)
        have tx : v.tmod r = x := by rw [hx, Int.tmod_eq_emod_of_nonneg v0]
        have hx1 := hlow x xx0 xx1
        have hx2 := hmono x r xx0 (by omega)
        have KN := Lib.hid (fun W (hW : Below w.heap.size w W) => nextP b gp r (by omega) HG.out.fine (HT.out.below (Nat.le_refl _) hW) HO.out HG.out.b0 HG.out.b1 gp0 gp1 r0 (by omega))
        have KX := Lib.hid (fun W (hW : Below w.heap.size w W) => nextP b gp x (by omega) HG.out.fine (HT.out.below (Nat.le_refl _) hW) HO.out HG.out.b0 HG.out.b1 gp0 gp1 xx0 (by omega))
        rw [hr] at KN hx2
        have t1 : decide (x < nextV b l o gp x) = true := decide_eq_true hx1
        have t2 : decide (nextV b l o gp x ≤ r) = true := decide_eq_true hx2
        have t3 : (r == 0) = false := by simp; omega
        have t4 : ¬ (r = 0) := by omega
        have t5 : decide (o.D < r) = false := by simp; omega
        have t6 : decide (r < 1) = false := by simp; omega
        have q1 : (0 : Int) ≤ (k : Int) := by omega
        have q2 : (k : Int) < (l.length : Int) := by omega
        clear hlow hr hx hx1 hx2 hmono hF0
        generalize nextV b l o gp x = N at KX t1 t2
        have KN' := Lib.hid (KN.out _ HB5.out.below)
        clear KN
        go_wp2_with (fail)
        with_reducible refine KN'.out.mono ?_
        rintro e w6 ⟨rfl, hb6⟩
        have HB6 := Lib.hid (HB5.out.tells hb6)
        clear hb6 s0 s1 HB5 KN'
        obtain ⟨s0, s1⟩ := HB6.out.cells
        have HTx := Lib.hid (HT.out.below (Nat.le_refl _) HB6.out.below)
        obtain ⟨bb, off, rfl, hbl, x0, x1, x2, x3, x4, x5, x6, x7, x8, x9, x10⟩ := HTx.out.cells HO.out
        clear HTx x0 x1 x3 x4 x5 x6 x7 x8 x9 x10
        have KX' := Lib.hid (KX.out _ HB6.out.below)
        clear KX
        go_wp2_with (fail)
        with_reducible refine KX'.out.mono ?_
        rintro e w7 ⟨rfl, hb7⟩
        have HB7 := Lib.hid (HB6.out.tells hb7)
        clear hb7 s0 s1 HB6 KX'
        obtain ⟨s0, s1⟩ := HB7.out.cells
        go_wp2
        go_ret
        exact ⟨rfl, HB7.out.below⟩
end Go.Proofs.Ytcibkapfekbhoaa
