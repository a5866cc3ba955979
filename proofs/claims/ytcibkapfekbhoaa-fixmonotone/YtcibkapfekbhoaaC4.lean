/- The walk of the statement on greater gaps and greater bursts. -/
import Derived.Test.YtcibkapfekbhoaaAw
import Derived.Test.YtcibkapfekbhoaaGd
import Derived.Test.YtcibkapfekbhoaaRx
import Derived.Lib.QuietBelow
import Derived.Deep.DeepCutAuto
namespace Go.Proofs.Ytcibkapfekbhoaa
open Go.RowKit

set_option maxRecDepth 100000 in
set_option maxHeartbeats 16000000 in
theorem coreMonotone (b : Int) (l : List Tk) (a : Option Addr) (cap : Nat) (i g v lg : Int) (i0 : 0 ≤ i) (i1 : i ≤ 255) (g0 : 0 ≤ g) (g1 : g ≤ 4294967295) (v0 : 0 ≤ v) (lg0 : 0 ≤ lg) (lg1 : lg ≤ 255) {w : World} (hm : l.length ≤ maxLen) (ht : Tasks w a cap l) :
    Calls Try.prog 6 #[.agg #[.int .i64 b, .slice a l.length cap], .int .u8 i, .int .u32 g, .int .u32 v, .int .u8 lg] w (Woke w) := by
  have KA := Lib.hid (fun W => awake W)
  have HT := Lib.hid ht
  have HB0 := Lib.hid (SetBox.made w b a l.length cap)
  clear ht
  go_enter Try.func6, Try.ntmps6
  go_wp2_with (fail)
  with_reducible refine (KA.out _).mono ?_
  rintro e w1 ⟨rfl, hb1⟩
  have HB1 := Lib.hid (HB0.out.tells hb1)
  have KF := Lib.hid (small b l a cap hm (HT.out.below (Nat.le_refl _) HB1.out.below))
  clear hb1 HB0
  obtain ⟨s0, s1⟩ := HB1.out.cells
  go_wp2_with (fail)
  with_reducible refine KF.out.mono ?_
  rintro e w2 ⟨r, rfl, hb2, hf⟩
  have HB2 := Lib.hid (HB1.out.tells hb2)
  have KR := Lib.hid (refRight b l a cap hm (HT.out.below (Nat.le_refl _) HB2.out.below))
  clear hb2 s0 s1 HB1 KF
  obtain ⟨s0, s1⟩ := HB2.out.cells
  cases r
  · clear hf
    go_wp2_with (fail)
    with_reducible refine (KA.out _).mono ?_
    rintro e w9 ⟨rfl, hb9⟩
    have HB9 := Lib.hid (HB2.out.tells hb9)
    clear hb9
    go_wp2
    go_ret
    exact ⟨rfl, HB9.out.below⟩
  · have HF := Lib.hid (hf rfl)
    clear hf
    have hG := fun h => good_of (b := b) (l := l) (eq_of_beq h)
    generalize ((whyF b l).1 == 0) = rr at KR hG
    go_wp2_with (fail)
    with_reducible refine KR.out.mono ?_
    rintro e w3 ⟨rfl, hb3⟩
    have HB3 := Lib.hid (HB2.out.tells hb3)
    clear hb3 s0 s1 HB2 KR
    obtain ⟨s0, s1⟩ := HB3.out.cells
    cases rr
    · clear hG
      go_wp2_with (fail)
      with_reducible refine (KA.out _).mono ?_
      rintro e w9 ⟨rfl, hb9⟩
      have HB9 := Lib.hid (HB3.out.tells hb9)
      clear hb9
      go_wp2
      go_ret
      exact ⟨rfl, HB9.out.below⟩
    · have HG := Lib.hid (hG rfl)
      clear hG
      obtain ⟨k, hk, hke⟩ := place_of (i := i) HG.out.n0
      have hk16 := HG.out.n1
      obtain ⟨gp0, gp1⟩ := gap_of g
      have KK := Lib.hid (task b (a := a) (cap := cap) i0 i1 g0 g1 HG.out.n0 (by omega) hke w3)
      generalize 1 + g % 1049576 = gp at gp0 gp1 KK
      have HO : Hid (l[k]? = some l[k]) := Lib.hid (List.getElem?_eq_getElem hk)
      generalize l[k] = o at HO
      clear hke i0 i1 g0 g1 KA
      go_wp2_with (fail)
      with_reducible refine KK.out.mono ?_
      rintro e w4 ⟨rfl, hb4⟩
      have HB4 := Lib.hid (HB3.out.tells hb4)
      clear hb4 s0 s1 HB3 KK
      obtain ⟨s0, s1⟩ := HB4.out.cells
      have hmem := List.mem_of_getElem? HO.out
      have hfo := HG.out.fine o hmem
      have hD3 := HF.out.2 o hmem
      have hoD : 1 ≤ o.D := by have := hfo.times; omega
      have hb0 := HG.out.b0
      have hb1 := HG.out.b1
      obtain ⟨r, ok, hR⟩ := resp_is (next_mono (l := l) (o := o) HG.out.b0 HG.out.b1 gp0 HG.out.fine) (by have := next_range (w := 0) (o := o) (by omega) (by omega) HG.out.b0 HG.out.b1 gp0 HG.out.fine hfo (by omega); omega) o.D (by omega)
      have KR := Lib.hid (fun W (hW : Below w.heap.size w W) => response b gp (by omega) HG.out.fine (HT.out.below (Nat.le_refl _) hW) HO.out HG.out.b0 HG.out.b1 gp0 gp1 hR)
      obtain ⟨m, hmv⟩ : ∃ m, m = v % 100000 := ⟨_, rfl⟩
      have m0 : 0 ≤ m := by rw [hmv]; exact Int.emod_nonneg _ (by omega)
      have m1 : m < 100000 := by rw [hmv]; exact Int.emod_lt_of_pos v (by omega)
      have tx : v.tmod 100000 = m := by rw [hmv, Int.tmod_eq_emod_of_nonneg v0]
      clear HF hmem hmv
      by_cases hwd : 1049576 < gp + m
      · have u0 : decide (1049576 < gp + m) = true := decide_eq_true hwd
        by_cases hb : 1000 < b + lg
        · have u1 : decide (1000 < b + lg) = true := decide_eq_true hb
          obtain ⟨q, is, hQ⟩ := resp_is (next_mono (g := 1049576) (l := l) (o := o) HG.out.b0 HG.out.b1 (by omega) HG.out.fine) (by have := next_range (w := 0) (g := 1049576) (o := o) (by omega) (by omega) HG.out.b0 HG.out.b1 (by omega) HG.out.fine hfo (by omega); omega) o.D (by omega)
          obtain ⟨p, there, hP⟩ := resp_is (next_mono (b := 1000) (g := gp) (l := l) (o := o) (by omega) (by omega) gp0 HG.out.fine) (by have := next_range (b := 1000) (w := 0) (g := gp) (o := o) (by omega) (by omega) (by omega) (by omega) gp0 HG.out.fine hfo (by omega); omega) o.D (by omega)
          have h1 : Hid (ok = true → is = true ∧ q ≤ r ∧ wholeV o ≤ r) := Lib.hid (fun e => by
            subst e
            have a1 := hR.less hQ (fun x x0 _ => next_gap x0 HG.out.b0 HG.out.b1 gp0 (by omega) HG.out.fine)
            obtain ⟨r0, rD, hr, _⟩ := hR.at_
            have a2 := next_range (w := r) (o := o) (g := gp) r0 (by omega) HG.out.b0 HG.out.b1 gp0 HG.out.fine hfo (by omega)
            exact ⟨a1.1, a1.2, by omega⟩)
          have h2 : Hid (there = true → ok = true ∧ r ≤ p) := Lib.hid (fun e => by
            subst e
            exact hP.less hR (fun x x0 _ => next_burst x0 HG.out.b0 (by omega) (by omega) gp0 HG.out.fine))
          have KW := Lib.hid (fun W (hW : Below w.heap.size w W) => response b 1049576 (by omega) HG.out.fine (HT.out.below (Nat.le_refl _) hW) HO.out HG.out.b0 HG.out.b1 (by omega) (by omega) hQ)
          have KT := Lib.hid (fun W (hW : Below w.heap.size w W) => response 1000 gp (by omega) HG.out.fine (HT.out.below (Nat.le_refl _) hW) HO.out (by omega) (by omega) gp0 gp1 hP)
          clear hQ hP hR HG
          go_upto_region 8 with fail
          obtain ⟨X, hX⟩ : ∃ X, X = w4.alloc (.cells #[.int .i64 (b + lg), .slice a l.length cap] 24) := ⟨_, rfl⟩
          have HBX : Hid (SetBox w b a l.length cap X) := Lib.hid (by rw [hX]; exact HB4.out.tells (below_new _ _))
          have HLX : Hid (Lies X w4.heap.size 24 #[.int .i64 (b + lg), .slice a l.length cap]) := Lib.hid (by rw [hX]; exact Lies.made _ _ _)
          have hlt : w.heap.size < w4.heap.size := HB4.out.lies.lt
          rw [← hX]
          clear hX s0 s1 HB4
          generalize w4.heap.size = B at HLX hlt ⊢
          obtain ⟨s0, s1⟩ := HBX.out.cells
          have y0 := HLX.out.cell 0
          have y1 := HLX.out.cell 1
          simp only [List.getElem?_toArray, List.getElem?_cons_zero, List.getElem?_cons_succ] at y0 y1
          have yf := HLX.out.thawed 0
          go_upto_region 10 with fail
          obtain ⟨Y, hY⟩ : ∃ Y, Y = X.setCell ⟨B, 0, none⟩ (.int .i64 1000) := ⟨_, rfl⟩
          have HB5 : Hid (SetBox w b a l.length cap Y) := Lib.hid (by rw [hY]; exact ⟨HBX.out.below.setCell (by simp only; omega) _, HBX.out.lies.there (by simp only; omega) _⟩)
          have HL5 : Hid (Lies Y B 24 #[.int .i64 1000, .slice a l.length cap]) := Lib.hid (by rw [hY]; exact HLX.out.here 0 _)
          rw [← hY]
          clear hY s0 s1 y0 y1 yf HBX HLX
          obtain ⟨s0, s1⟩ := HB5.out.cells
          have y0 := HL5.out.cell 0
          have y1 := HL5.out.cell 1
          simp only [List.getElem?_toArray, List.getElem?_cons_zero, List.getElem?_cons_succ] at y0 y1
          have KR' := Lib.hid (KR.out _ HB5.out.below)
          clear KR
          go_wp2_with (fail)
          with_reducible refine KR'.out.mono ?_
          rintro e w6 ⟨rfl, hb6⟩
          have HB6 := Lib.hid (HB5.out.tells hb6)
          have HL6 := Lib.hid (HL5.out.below hb6 HL5.out.lt)
          clear hb6 s0 s1 y0 y1 HB5 HL5 KR'
          obtain ⟨s0, s1⟩ := HB6.out.cells
          have y0 := HL6.out.cell 0
          have y1 := HL6.out.cell 1
          simp only [List.getElem?_toArray, List.getElem?_cons_zero, List.getElem?_cons_succ] at y0 y1
          have KW' := Lib.hid (KW.out _ HB6.out.below)
          clear KW
          go_wp2_with (fail)
          with_reducible refine KW'.out.mono ?_
          rintro e w7 ⟨rfl, hb7⟩
          have HB7 := Lib.hid (HB6.out.tells hb7)
          have HL7 := Lib.hid (HL6.out.below hb7 HL6.out.lt)
          clear hb7 s0 s1 y0 y1 HB6 HL6 KW'
          obtain ⟨s0, s1⟩ := HB7.out.cells
          have y0 := HL7.out.cell 0
          have y1 := HL7.out.cell 1
          simp only [List.getElem?_toArray, List.getElem?_cons_zero, List.getElem?_cons_succ] at y0 y1
          have KT' := Lib.hid (KT.out _ HB7.out.below)
          clear KT
          go_wp2_with (fail)
          with_reducible refine KT'.out.mono ?_
          rintro e w8 ⟨rfl, hb8⟩
          have HB8 := Lib.hid (HB7.out.tells hb8)
          have HL8 := Lib.hid (HL7.out.below hb8 HL7.out.lt)
          clear hb8 s0 s1 y0 y1 HB7 HL7 KT'
          obtain ⟨s0, s1⟩ := HB8.out.cells
          have y0 := HL8.out.cell 0
          have y1 := HL8.out.cell 1
          simp only [List.getElem?_toArray, List.getElem?_cons_zero, List.getElem?_cons_succ] at y0 y1
          clear gp0 gp1
          cases ok
          · cases there
            · clear h1 h2 HT HO
              go_wp2
              go_ret
              exact ⟨rfl, HB8.out.below⟩
            · exact absurd (h2.out rfl).1 (by simp)
          · obtain ⟨rfl, hq, hwr⟩ := h1.out rfl
            have t1 : decide (r < q) = false := decide_eq_false (by omega)
            have t2 : decide (r < wholeV o) = false := decide_eq_false (by omega)
            have hth := h2.out
            clear h1 h2
            have KO := Lib.hid (fun W => refWhole hfo W)
            simp only [aggK] at KO
            generalize wholeV o = wo at KO hwr t2
            have HTx := Lib.hid (HT.out.below (Nat.le_refl _) HB8.out.below)
            obtain ⟨bb, off, rfl, hbl, x0, x1, x2, x3, x4, x5, x6, x7, x8, x9, x10⟩ := HTx.out.cells HO.out
            clear HTx HT HO hfo hbl
            have q1 : (0 : Int) ≤ (k : Int) := by omega
            have q2 : (k : Int) < (l.length : Int) := by omega
            go_wp2_with (fail)
            with_reducible refine (KO.out _).mono ?_
            rintro e w9 ⟨rfl, hb9⟩
            have HB9 := Lib.hid (HB8.out.tells hb9)
            clear hb9 x0 x1 x2 x3 x4 x5 x6 x7 x8 x9 x10 KO s0 s1 y0 y1
            cases there
            · clear hth
              go_wp2
              go_ret
              exact ⟨rfl, HB9.out.below⟩
            · have t3 : decide (r ≤ p) = true := decide_eq_true (hth rfl).2
              clear hth
              go_wp2
              go_ret
              exact ⟨rfl, HB9.out.below⟩
        · have u1 : decide (1000 < b + lg) = false := decide_eq_false hb
          obtain ⟨q, is, hQ⟩ := resp_is (next_mono (g := 1049576) (l := l) (o := o) HG.out.b0 HG.out.b1 (by omega) HG.out.fine) (by have := next_range (w := 0) (g := 1049576) (o := o) (by omega) (by omega) HG.out.b0 HG.out.b1 (by omega) HG.out.fine hfo (by omega); omega) o.D (by omega)
          obtain ⟨p, there, hP⟩ := resp_is (next_mono (b := (b + lg)) (g := gp) (l := l) (o := o) (by omega) (by omega) gp0 HG.out.fine) (by have := next_range (b := (b + lg)) (w := 0) (g := gp) (o := o) (by omega) (by omega) (by omega) (by omega) gp0 HG.out.fine hfo (by omega); omega) o.D (by omega)
          have h1 : Hid (ok = true → is = true ∧ q ≤ r ∧ wholeV o ≤ r) := Lib.hid (fun e => by
            subst e
            have a1 := hR.less hQ (fun x x0 _ => next_gap x0 HG.out.b0 HG.out.b1 gp0 (by omega) HG.out.fine)
            obtain ⟨r0, rD, hr, _⟩ := hR.at_
            have a2 := next_range (w := r) (o := o) (g := gp) r0 (by omega) HG.out.b0 HG.out.b1 gp0 HG.out.fine hfo (by omega)
            exact ⟨a1.1, a1.2, by omega⟩)
          have h2 : Hid (there = true → ok = true ∧ r ≤ p) := Lib.hid (fun e => by
            subst e
            exact hP.less hR (fun x x0 _ => next_burst x0 HG.out.b0 (by omega) (by omega) gp0 HG.out.fine))
          have KW := Lib.hid (fun W (hW : Below w.heap.size w W) => response b 1049576 (by omega) HG.out.fine (HT.out.below (Nat.le_refl _) hW) HO.out HG.out.b0 HG.out.b1 (by omega) (by omega) hQ)
          have KT := Lib.hid (fun W (hW : Below w.heap.size w W) => response (b + lg) gp (by omega) HG.out.fine (HT.out.below (Nat.le_refl _) hW) HO.out (by omega) (by omega) gp0 gp1 hP)
          clear hQ hP hR HG
          go_upto_region 8 with fail
          obtain ⟨X, hX⟩ : ∃ X, X = w4.alloc (.cells #[.int .i64 (b + lg), .slice a l.length cap] 24) := ⟨_, rfl⟩
          have HBX : Hid (SetBox w b a l.length cap X) := Lib.hid (by rw [hX]; exact HB4.out.tells (below_new _ _))
          have HLX : Hid (Lies X w4.heap.size 24 #[.int .i64 (b + lg), .slice a l.length cap]) := Lib.hid (by rw [hX]; exact Lies.made _ _ _)
          have hlt : w.heap.size < w4.heap.size := HB4.out.lies.lt
          rw [← hX]
          clear hX s0 s1 HB4
          generalize w4.heap.size = B at HLX hlt ⊢
          obtain ⟨s0, s1⟩ := HBX.out.cells
          have y0 := HLX.out.cell 0
          have y1 := HLX.out.cell 1
          simp only [List.getElem?_toArray, List.getElem?_cons_zero, List.getElem?_cons_succ] at y0 y1
          have HB5 := HBX
          have HL5 := HLX
          clear HBX HLX
          go_upto_region 10 with fail
          have KR' := Lib.hid (KR.out _ HB5.out.below)
          clear KR
          go_wp2_with (fail)
          with_reducible refine KR'.out.mono ?_
          rintro e w6 ⟨rfl, hb6⟩
          have HB6 := Lib.hid (HB5.out.tells hb6)
          have HL6 := Lib.hid (HL5.out.below hb6 HL5.out.lt)
          clear hb6 s0 s1 y0 y1 HB5 HL5 KR'
          obtain ⟨s0, s1⟩ := HB6.out.cells
          have y0 := HL6.out.cell 0
          have y1 := HL6.out.cell 1
          simp only [List.getElem?_toArray, List.getElem?_cons_zero, List.getElem?_cons_succ] at y0 y1
          have KW' := Lib.hid (KW.out _ HB6.out.below)
          clear KW
          go_wp2_with (fail)
          with_reducible refine KW'.out.mono ?_
          rintro e w7 ⟨rfl, hb7⟩
          have HB7 := Lib.hid (HB6.out.tells hb7)
          have HL7 := Lib.hid (HL6.out.below hb7 HL6.out.lt)
          clear hb7 s0 s1 y0 y1 HB6 HL6 KW'
          obtain ⟨s0, s1⟩ := HB7.out.cells
          have y0 := HL7.out.cell 0
          have y1 := HL7.out.cell 1
          simp only [List.getElem?_toArray, List.getElem?_cons_zero, List.getElem?_cons_succ] at y0 y1
          have KT' := Lib.hid (KT.out _ HB7.out.below)
          clear KT
          go_wp2_with (fail)
          with_reducible refine KT'.out.mono ?_
          rintro e w8 ⟨rfl, hb8⟩
          have HB8 := Lib.hid (HB7.out.tells hb8)
          have HL8 := Lib.hid (HL7.out.below hb8 HL7.out.lt)
          clear hb8 s0 s1 y0 y1 HB7 HL7 KT'
          obtain ⟨s0, s1⟩ := HB8.out.cells
          have y0 := HL8.out.cell 0
          have y1 := HL8.out.cell 1
          simp only [List.getElem?_toArray, List.getElem?_cons_zero, List.getElem?_cons_succ] at y0 y1
          clear gp0 gp1
          cases ok
          · cases there
            · clear h1 h2 HT HO
              go_wp2
              go_ret
              exact ⟨rfl, HB8.out.below⟩
            · exact absurd (h2.out rfl).1 (by simp)
          · obtain ⟨rfl, hq, hwr⟩ := h1.out rfl
            have t1 : decide (r < q) = false := decide_eq_false (by omega)
            have t2 : decide (r < wholeV o) = false := decide_eq_false (by omega)
            have hth := h2.out
            clear h1 h2
            have KO := Lib.hid (fun W => refWhole hfo W)
            simp only [aggK] at KO
            generalize wholeV o = wo at KO hwr t2
            have HTx := Lib.hid (HT.out.below (Nat.le_refl _) HB8.out.below)
            obtain ⟨bb, off, rfl, hbl, x0, x1, x2, x3, x4, x5, x6, x7, x8, x9, x10⟩ := HTx.out.cells HO.out
            clear HTx HT HO hfo hbl
            have q1 : (0 : Int) ≤ (k : Int) := by omega
            have q2 : (k : Int) < (l.length : Int) := by omega
            go_wp2_with (fail)
            with_reducible refine (KO.out _).mono ?_
            rintro e w9 ⟨rfl, hb9⟩
            have HB9 := Lib.hid (HB8.out.tells hb9)
            clear hb9 x0 x1 x2 x3 x4 x5 x6 x7 x8 x9 x10 KO s0 s1 y0 y1
            cases there
            · clear hth
              go_wp2
              go_ret
              exact ⟨rfl, HB9.out.below⟩
            · have t3 : decide (r ≤ p) = true := decide_eq_true (hth rfl).2
              clear hth
              go_wp2
              go_ret
              exact ⟨rfl, HB9.out.below⟩
      · have u0 : decide (1049576 < gp + m) = false := decide_eq_false hwd
        by_cases hb : 1000 < b + lg
        · have u1 : decide (1000 < b + lg) = true := decide_eq_true hb
          obtain ⟨q, is, hQ⟩ := resp_is (next_mono (g := (gp + m)) (l := l) (o := o) HG.out.b0 HG.out.b1 (by omega) HG.out.fine) (by have := next_range (w := 0) (g := (gp + m)) (o := o) (by omega) (by omega) HG.out.b0 HG.out.b1 (by omega) HG.out.fine hfo (by omega); omega) o.D (by omega)
          obtain ⟨p, there, hP⟩ := resp_is (next_mono (b := 1000) (g := gp) (l := l) (o := o) (by omega) (by omega) gp0 HG.out.fine) (by have := next_range (b := 1000) (w := 0) (g := gp) (o := o) (by omega) (by omega) (by omega) (by omega) gp0 HG.out.fine hfo (by omega); omega) o.D (by omega)
          have h1 : Hid (ok = true → is = true ∧ q ≤ r ∧ wholeV o ≤ r) := Lib.hid (fun e => by
            subst e
            have a1 := hR.less hQ (fun x x0 _ => next_gap x0 HG.out.b0 HG.out.b1 gp0 (by omega) HG.out.fine)
            obtain ⟨r0, rD, hr, _⟩ := hR.at_
            have a2 := next_range (w := r) (o := o) (g := gp) r0 (by omega) HG.out.b0 HG.out.b1 gp0 HG.out.fine hfo (by omega)
            exact ⟨a1.1, a1.2, by omega⟩)
          have h2 : Hid (there = true → ok = true ∧ r ≤ p) := Lib.hid (fun e => by
            subst e
            exact hP.less hR (fun x x0 _ => next_burst x0 HG.out.b0 (by omega) (by omega) gp0 HG.out.fine))
          have KW := Lib.hid (fun W (hW : Below w.heap.size w W) => response b (gp + m) (by omega) HG.out.fine (HT.out.below (Nat.le_refl _) hW) HO.out HG.out.b0 HG.out.b1 (by omega) (by omega) hQ)
          have KT := Lib.hid (fun W (hW : Below w.heap.size w W) => response 1000 gp (by omega) HG.out.fine (HT.out.below (Nat.le_refl _) hW) HO.out (by omega) (by omega) gp0 gp1 hP)
          clear hQ hP hR HG
          go_upto_region 8 with fail
          obtain ⟨X, hX⟩ : ∃ X, X = w4.alloc (.cells #[.int .i64 (b + lg), .slice a l.length cap] 24) := ⟨_, rfl⟩
          have HBX : Hid (SetBox w b a l.length cap X) := Lib.hid (by rw [hX]; exact HB4.out.tells (below_new _ _))
          have HLX : Hid (Lies X w4.heap.size 24 #[.int .i64 (b + lg), .slice a l.length cap]) := Lib.hid (by rw [hX]; exact Lies.made _ _ _)
          have hlt : w.heap.size < w4.heap.size := HB4.out.lies.lt
          rw [← hX]
          clear hX s0 s1 HB4
          generalize w4.heap.size = B at HLX hlt ⊢
          obtain ⟨s0, s1⟩ := HBX.out.cells
          have y0 := HLX.out.cell 0
          have y1 := HLX.out.cell 1
          simp only [List.getElem?_toArray, List.getElem?_cons_zero, List.getElem?_cons_succ] at y0 y1
          have yf := HLX.out.thawed 0
          go_upto_region 10 with fail
          obtain ⟨Y, hY⟩ : ∃ Y, Y = X.setCell ⟨B, 0, none⟩ (.int .i64 1000) := ⟨_, rfl⟩
          have HB5 : Hid (SetBox w b a l.length cap Y) := Lib.hid (by rw [hY]; exact ⟨HBX.out.below.setCell (by simp only; omega) _, HBX.out.lies.there (by simp only; omega) _⟩)
          have HL5 : Hid (Lies Y B 24 #[.int .i64 1000, .slice a l.length cap]) := Lib.hid (by rw [hY]; exact HLX.out.here 0 _)
          rw [← hY]
          clear hY s0 s1 y0 y1 yf HBX HLX
          obtain ⟨s0, s1⟩ := HB5.out.cells
          have y0 := HL5.out.cell 0
          have y1 := HL5.out.cell 1
          simp only [List.getElem?_toArray, List.getElem?_cons_zero, List.getElem?_cons_succ] at y0 y1
          have KR' := Lib.hid (KR.out _ HB5.out.below)
          clear KR
          go_wp2_with (fail)
          with_reducible refine KR'.out.mono ?_
          rintro e w6 ⟨rfl, hb6⟩
          have HB6 := Lib.hid (HB5.out.tells hb6)
          have HL6 := Lib.hid (HL5.out.below hb6 HL5.out.lt)
          clear hb6 s0 s1 y0 y1 HB5 HL5 KR'
          obtain ⟨s0, s1⟩ := HB6.out.cells
          have y0 := HL6.out.cell 0
          have y1 := HL6.out.cell 1
          simp only [List.getElem?_toArray, List.getElem?_cons_zero, List.getElem?_cons_succ] at y0 y1
          have KW' := Lib.hid (KW.out _ HB6.out.below)
          clear KW
          go_wp2_with (fail)
          with_reducible refine KW'.out.mono ?_
          rintro e w7 ⟨rfl, hb7⟩
          have HB7 := Lib.hid (HB6.out.tells hb7)
          have HL7 := Lib.hid (HL6.out.below hb7 HL6.out.lt)
          clear hb7 s0 s1 y0 y1 HB6 HL6 KW'
          obtain ⟨s0, s1⟩ := HB7.out.cells
          have y0 := HL7.out.cell 0
          have y1 := HL7.out.cell 1
          simp only [List.getElem?_toArray, List.getElem?_cons_zero, List.getElem?_cons_succ] at y0 y1
          have KT' := Lib.hid (KT.out _ HB7.out.below)
          clear KT
          go_wp2_with (fail)
          with_reducible refine KT'.out.mono ?_
          rintro e w8 ⟨rfl, hb8⟩
          have HB8 := Lib.hid (HB7.out.tells hb8)
          have HL8 := Lib.hid (HL7.out.below hb8 HL7.out.lt)
          clear hb8 s0 s1 y0 y1 HB7 HL7 KT'
          obtain ⟨s0, s1⟩ := HB8.out.cells
          have y0 := HL8.out.cell 0
          have y1 := HL8.out.cell 1
          simp only [List.getElem?_toArray, List.getElem?_cons_zero, List.getElem?_cons_succ] at y0 y1
          clear gp0 gp1
          cases ok
          · cases there
            · clear h1 h2 HT HO
              go_wp2
              go_ret
              exact ⟨rfl, HB8.out.below⟩
            · exact absurd (h2.out rfl).1 (by simp)
          · obtain ⟨rfl, hq, hwr⟩ := h1.out rfl
            have t1 : decide (r < q) = false := decide_eq_false (by omega)
            have t2 : decide (r < wholeV o) = false := decide_eq_false (by omega)
            have hth := h2.out
            clear h1 h2
            have KO := Lib.hid (fun W => refWhole hfo W)
            simp only [aggK] at KO
            generalize wholeV o = wo at KO hwr t2
            have HTx := Lib.hid (HT.out.below (Nat.le_refl _) HB8.out.below)
            obtain ⟨bb, off, rfl, hbl, x0, x1, x2, x3, x4, x5, x6, x7, x8, x9, x10⟩ := HTx.out.cells HO.out
            clear HTx HT HO hfo hbl
            have q1 : (0 : Int) ≤ (k : Int) := by omega
            have q2 : (k : Int) < (l.length : Int) := by omega
            go_wp2_with (fail)
            with_reducible refine (KO.out _).mono ?_
            rintro e w9 ⟨rfl, hb9⟩
            have HB9 := Lib.hid (HB8.out.tells hb9)
            clear hb9 x0 x1 x2 x3 x4 x5 x6 x7 x8 x9 x10 KO s0 s1 y0 y1
            cases there
            · clear hth
              go_wp2
              go_ret
              exact ⟨rfl, HB9.out.below⟩
            · have t3 : decide (r ≤ p) = true := decide_eq_true (hth rfl).2
              clear hth
              go_wp2
              go_ret
              exact ⟨rfl, HB9.out.below⟩
        · have u1 : decide (1000 < b + lg) = false := decide_eq_false hb
          obtain ⟨q, is, hQ⟩ := resp_is (next_mono (g := (gp + m)) (l := l) (o := o) HG.out.b0 HG.out.b1 (by omega) HG.out.fine) (by have := next_range (w := 0) (g := (gp + m)) (o := o) (by omega) (by omega) HG.out.b0 HG.out.b1 (by omega) HG.out.fine hfo (by omega); omega) o.D (by omega)
          obtain ⟨p, there, hP⟩ := resp_is (next_mono (b := (b + lg)) (g := gp) (l := l) (o := o) (by omega) (by omega) gp0 HG.out.fine) (by have := next_range (b := (b + lg)) (w := 0) (g := gp) (o := o) (by omega) (by omega) (by omega) (by omega) gp0 HG.out.fine hfo (by omega); omega) o.D (by omega)
          have h1 : Hid (ok = true → is = true ∧ q ≤ r ∧ wholeV o ≤ r) := Lib.hid (fun e => by
            subst e
            have a1 := hR.less hQ (fun x x0 _ => next_gap x0 HG.out.b0 HG.out.b1 gp0 (by omega) HG.out.fine)
            obtain ⟨r0, rD, hr, _⟩ := hR.at_
            have a2 := next_range (w := r) (o := o) (g := gp) r0 (by omega) HG.out.b0 HG.out.b1 gp0 HG.out.fine hfo (by omega)
            exact ⟨a1.1, a1.2, by omega⟩)
          have h2 : Hid (there = true → ok = true ∧ r ≤ p) := Lib.hid (fun e => by
            subst e
            exact hP.less hR (fun x x0 _ => next_burst x0 HG.out.b0 (by omega) (by omega) gp0 HG.out.fine))
          have KW := Lib.hid (fun W (hW : Below w.heap.size w W) => response b (gp + m) (by omega) HG.out.fine (HT.out.below (Nat.le_refl _) hW) HO.out HG.out.b0 HG.out.b1 (by omega) (by omega) hQ)
          have KT := Lib.hid (fun W (hW : Below w.heap.size w W) => response (b + lg) gp (by omega) HG.out.fine (HT.out.below (Nat.le_refl _) hW) HO.out (by omega) (by omega) gp0 gp1 hP)
          clear hQ hP hR HG
          go_upto_region 8 with fail
          obtain ⟨X, hX⟩ : ∃ X, X = w4.alloc (.cells #[.int .i64 (b + lg), .slice a l.length cap] 24) := ⟨_, rfl⟩
          have HBX : Hid (SetBox w b a l.length cap X) := Lib.hid (by rw [hX]; exact HB4.out.tells (below_new _ _))
          have HLX : Hid (Lies X w4.heap.size 24 #[.int .i64 (b + lg), .slice a l.length cap]) := Lib.hid (by rw [hX]; exact Lies.made _ _ _)
          have hlt : w.heap.size < w4.heap.size := HB4.out.lies.lt
          rw [← hX]
          clear hX s0 s1 HB4
          generalize w4.heap.size = B at HLX hlt ⊢
          obtain ⟨s0, s1⟩ := HBX.out.cells
          have y0 := HLX.out.cell 0
          have y1 := HLX.out.cell 1
          simp only [List.getElem?_toArray, List.getElem?_cons_zero, List.getElem?_cons_succ] at y0 y1
          have HB5 := HBX
          have HL5 := HLX
          clear HBX HLX
          go_upto_region 10 with fail
          have KR' := Lib.hid (KR.out _ HB5.out.below)
          clear KR
          go_wp2_with (fail)
          with_reducible refine KR'.out.mono ?_
          rintro e w6 ⟨rfl, hb6⟩
          have HB6 := Lib.hid (HB5.out.tells hb6)
          have HL6 := Lib.hid (HL5.out.below hb6 HL5.out.lt)
          clear hb6 s0 s1 y0 y1 HB5 HL5 KR'
          obtain ⟨s0, s1⟩ := HB6.out.cells
          have y0 := HL6.out.cell 0
          have y1 := HL6.out.cell 1
          simp only [List.getElem?_toArray, List.getElem?_cons_zero, List.getElem?_cons_succ] at y0 y1
          have KW' := Lib.hid (KW.out _ HB6.out.below)
          clear KW
          go_wp2_with (fail)
          with_reducible refine KW'.out.mono ?_
          rintro e w7 ⟨rfl, hb7⟩
          have HB7 := Lib.hid (HB6.out.tells hb7)
          have HL7 := Lib.hid (HL6.out.below hb7 HL6.out.lt)
          clear hb7 s0 s1 y0 y1 HB6 HL6 KW'
          obtain ⟨s0, s1⟩ := HB7.out.cells
          have y0 := HL7.out.cell 0
          have y1 := HL7.out.cell 1
          simp only [List.getElem?_toArray, List.getElem?_cons_zero, List.getElem?_cons_succ] at y0 y1
          have KT' := Lib.hid (KT.out _ HB7.out.below)
          clear KT
          go_wp2_with (fail)
          with_reducible refine KT'.out.mono ?_
          rintro e w8 ⟨rfl, hb8⟩
          have HB8 := Lib.hid (HB7.out.tells hb8)
          have HL8 := Lib.hid (HL7.out.below hb8 HL7.out.lt)
          clear hb8 s0 s1 y0 y1 HB7 HL7 KT'
          obtain ⟨s0, s1⟩ := HB8.out.cells
          have y0 := HL8.out.cell 0
          have y1 := HL8.out.cell 1
          simp only [List.getElem?_toArray, List.getElem?_cons_zero, List.getElem?_cons_succ] at y0 y1
          clear gp0 gp1
          cases ok
          · cases there
            · clear h1 h2 HT HO
              go_wp2
              go_ret
              exact ⟨rfl, HB8.out.below⟩
            · exact absurd (h2.out rfl).1 (by simp)
          · obtain ⟨rfl, hq, hwr⟩ := h1.out rfl
            have t1 : decide (r < q) = false := decide_eq_false (by omega)
            have t2 : decide (r < wholeV o) = false := decide_eq_false (by omega)
            have hth := h2.out
            clear h1 h2
            have KO := Lib.hid (fun W => refWhole hfo W)
            simp only [aggK] at KO
            generalize wholeV o = wo at KO hwr t2
            have HTx := Lib.hid (HT.out.below (Nat.le_refl _) HB8.out.below)
            obtain ⟨bb, off, rfl, hbl, x0, x1, x2, x3, x4, x5, x6, x7, x8, x9, x10⟩ := HTx.out.cells HO.out
            clear HTx HT HO hfo hbl
            have q1 : (0 : Int) ≤ (k : Int) := by omega
            have q2 : (k : Int) < (l.length : Int) := by omega
            go_wp2_with (fail)
            with_reducible refine (KO.out _).mono ?_
            rintro e w9 ⟨rfl, hb9⟩
            have HB9 := Lib.hid (HB8.out.tells hb9)
            clear hb9 x0 x1 x2 x3 x4 x5 x6 x7 x8 x9 x10 KO s0 s1 y0 y1
            cases there
            · clear hth
              go_wp2
              go_ret
              exact ⟨rfl, HB9.out.below⟩
            · have t3 : decide (r ≤ p) = true := decide_eq_true (hth rfl).2
              clear hth
              go_wp2
              go_ret
              exact ⟨rfl, HB9.out.below⟩
end Go.Proofs.Ytcibkapfekbhoaa
