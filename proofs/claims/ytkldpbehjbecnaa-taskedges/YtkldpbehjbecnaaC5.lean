/- The walk of the statement on a task's limits. -/
import Derived.Test.YtkldpbehjbecnaaC2
import Derived.Test.YtkldpbehjbecnaaOn
import Derived.Test.YtkldpbehjbecnaaPe
import Derived.BigRegion
import Derived.RegionTactic
import Derived.Deep.DeepCutAuto
namespace Go.Proofs.Ytkldpbehjbecnaa
open Go.RowKit

set_option maxRecDepth 100000 in
set_option maxHeartbeats 8000000 in
theorem coreEdges (b : Int) (l : List Tk) (a : Option Addr) (cap : Nat) (nn : Nat) (hnn : nn ≤ 255) {w : World} (hm : l.length ≤ maxLen) (ht : Tasks w a cap l) :
    Calls Try.prog 8 #[.agg #[.int .i64 b, .slice a l.length cap], .int .u8 (nn : Int)] w (Woke w) := by
  have HT := Lib.hid ht
  have HM := Lib.hid hm
  have HB0 := Lib.hid (below_new w (.cells #[.int .i64 b, .slice a l.length cap] 24))
  have HX0 := Lib.hid (Lies.made w 24 #[.int .i64 b, .slice a l.length cap])
  clear ht hm
  go_enter Try.func8, Try.ntmps8
  go_wp2_with (fail)
  refine (awake _).mono ?_
  rintro e w1 ⟨rfl, hb1⟩
  have HB1 := Lib.hid (HB0.out.trans (hb1.mono HB0.out.size))
  have HX1 := Lib.hid (HX0.out.below hb1 HX0.out.lt)
  clear hb1
  have y0 : w1.cell? ⟨w.heap.size, 0, none⟩ = some (.int .i64 b) := HX1.out.cell 0
  have y1 : w1.cell? ⟨w.heap.size, 1, none⟩ = some (.slice a l.length cap) := HX1.out.cell 1
  have KF := Lib.hid (few b l a cap HM.out (HT.out.below (Nat.le_refl _) HB1.out))
  go_wp2_with (fail)
  with_reducible refine KF.out.mono ?_
  rintro e w2 ⟨fb, rfl, hb2, hf⟩
  have HB2 := Lib.hid (HB1.out.trans (hb2.mono HB1.out.size))
  have HX2 := Lib.hid (HX1.out.below hb2 HX1.out.lt)
  have HF := Lib.hid hf
  clear hb2 hf y0 y1 HB0 HX0 HB1 HX1 KF
  cases fb with
  | false =>
    go_wp2_with (fail)
    refine (awake _).mono ?_
    rintro e w3 ⟨rfl, hb3⟩
    have HB3 := Lib.hid (HB2.out.trans (hb3.mono HB2.out.size))
    clear hb3
    go_wp2
    go_ret
    exact ⟨rfl, HB3.out⟩
  | true =>
    have y0 : w2.cell? ⟨w.heap.size, 0, none⟩ = some (.int .i64 b) := HX2.out.cell 0
    have y1 : w2.cell? ⟨w.heap.size, 1, none⟩ = some (.slice a l.length cap) := HX2.out.cell 1
    cases hR : ((whyF b l).1 == 0) with
    | false =>
      have K1 := Lib.hid (refRight b l a cap HM.out (HT.out.below (Nat.le_refl _) HB2.out))
      rw [hR] at K1
      clear hR
      go_wp2_with (fail)
      with_reducible refine K1.out.mono ?_
      rintro e w3 ⟨rfl, hb3⟩
      have HB3 := Lib.hid (HB2.out.trans (hb3.mono HB2.out.size))
      clear hb3 y0 y1 K1 HB2 HX2
      go_wp2_with (fail)
      refine (awake _).mono ?_
      rintro e w4 ⟨rfl, hb4⟩
      have HB4 := Lib.hid (HB3.out.trans (hb4.mono HB3.out.size))
      clear hb4
      go_wp2
      go_ret
      exact ⟨rfl, HB4.out⟩
    | true =>
      have K1 := Lib.hid (refRight b l a cap HM.out (HT.out.below (Nat.le_refl _) HB2.out))
      rw [hR] at K1
      have HRT := Lib.hid (show (whyF b l).1 = 0 by simpa using hR)
      have hn : 1 ≤ l.length ∧ l.length ≤ 16 := ((right_iff b l).1 HRT.out).2.1
      obtain ⟨hn1, hn2⟩ := hn
      clear hR
      go_wp2_with (fail)
      with_reducible refine K1.out.mono ?_
      rintro e w3 ⟨rfl, hb3⟩
      have HB3 := Lib.hid (HB2.out.trans (hb3.mono HB2.out.size))
      have HX3 := Lib.hid (HX2.out.below hb3 HX2.out.lt)
      clear hb3 y0 y1 K1 HB2 HX2
      have hcap := HT.out.le
      have h0' : ¬ ((l.length : Int) = 0) := by omega
      obtain ⟨u, hu⟩ : ∃ u, u = nn % l.length := ⟨_, rfl⟩
      have hul : u < l.length := by rw [hu]; exact Nat.mod_lt _ (by omega)
      have HQ := Lib.hid (show (nn : Int) % (l.length : Int) = (u : Int) by rw [hu, Int.natCast_emod])
      have HU := Lib.hid hu
      clear hu
      have hq2 : (nn : Int) % (l.length : Int) = (u : Int) := HQ.out
      have hq3 : IntKind.i64.wrap (u : Int) = (u : Int) := by rw [IntWalk.i64_in _ ⟨by omega, by omega⟩]
      have hq4 : ¬ l.length = 0 := by omega
      have hq6 : nn % l.length = u := HU.out.symm
      have hq7 : u < l.length := hul
      have hq5 : ¬ l = [] := fun e => by rw [e] at hul; exact absurd hul (by simp)
      have q1 : (0 : Int) ≤ (u : Int) := by omega
      have q2 : (u : Int) < (l.length : Int) := by omega
      have hx := List.getElem?_eq_getElem hul
      have HXU := Lib.hid hx
      obtain ⟨bb, off, rfl, hbl, x0, x1, x2, x3, x4, x5, x6, x7, x8, x9, x10⟩ := (HT.out.below (Nat.le_refl _) HB3.out).cells hx
      clear hx
      generalize l[u] = t at x0 x1 x2 x3 x4 x5 x6 x7 x8 x9 x10 HXU
      obtain ⟨n, tT, tD, tC, tA, tS, tc, tM, tK, tO, tP⟩ := t
      simp only at x0 x1 x2 x3 x4 x5 x6 x7 x8 x9 x10
      have HFIT := Lib.hid (Fit.of HRT.out HXU.out)
      have y1 : w3.cell? ⟨w.heap.size, 1, none⟩ = some (.slice (some ⟨bb, off, none⟩) l.length cap) := HX3.out.cell 1
      have hwl : w.heap.size < w3.heap.size := HX3.out.lt
      go_wp2
      go_region
      have HLT : Hid (Lies ((w3.alloc (.cells #[.string n, .int .i64 tT, .int .i64 tD, .int .i64 tC, .int .i64 tA, .int .i64 tS, .int .i64 tc, .int .i64 tM, .int .i64 tK, .int .i64 tO, .int .i64 tP] 32)).drew) w3.heap.size 32 #[.string n, .int .i64 tT, .int .i64 tD, .int .i64 tC, .int .i64 tA, .int .i64 tS, .int .i64 tc, .int .i64 tM, .int .i64 tK, .int .i64 tO, .int .i64 tP]) := Lies.made w3 32 #[.string n, .int .i64 tT, .int .i64 tD, .int .i64 tC, .int .i64 tA, .int .i64 tS, .int .i64 tc, .int .i64 tM, .int .i64 tK, .int .i64 tO, .int .i64 tP]
      have HB : Hid (Below w.heap.size w ((w3.alloc (.cells #[.string n, .int .i64 tT, .int .i64 tD, .int .i64 tC, .int .i64 tA, .int .i64 tS, .int .i64 tc, .int .i64 tM, .int .i64 tK, .int .i64 tO, .int .i64 tP] 32)).drew)) := below_drewN (HB3.out.alloc HB3.out.size _) 1
      generalize (w3.alloc (.cells #[.string n, .int .i64 tT, .int .i64 tD, .int .i64 tC, .int .i64 tA, .int .i64 tS, .int .i64 tc, .int .i64 tM, .int .i64 tK, .int .i64 tO, .int .i64 tP] 32)).drew = V0 at HLT HB ⊢
      generalize w3.heap.size = gt at HLT ⊢
      clear x0 x1 x2 x3 x4 x5 x6 x7 x8 x9 x10 y1 hq2 hq3 hq4 hq5 hq6 hq7 hwl hbl HX3 HB3 HQ
      have b1 := HFIT.out.h4
      have b2 := HFIT.out.h3
      have b3 := HFIT.out.h2
      have b4 := HFIT.out.h1
      have s0 : V0.cell? ⟨gt, 0, none⟩ = some (.string n) := HLT.out.cell 0
      have s1 : V0.cell? ⟨gt, 1, none⟩ = some (.int .i64 tT) := HLT.out.cell 1
      have s2 : V0.cell? ⟨gt, 2, none⟩ = some (.int .i64 tD) := HLT.out.cell 2
      have s3 : V0.cell? ⟨gt, 3, none⟩ = some (.int .i64 tC) := HLT.out.cell 3
      have s4 : V0.cell? ⟨gt, 4, none⟩ = some (.int .i64 tA) := HLT.out.cell 4
      have s5 : V0.cell? ⟨gt, 5, none⟩ = some (.int .i64 tS) := HLT.out.cell 5
      have s6 : V0.cell? ⟨gt, 6, none⟩ = some (.int .i64 tc) := HLT.out.cell 6
      have s7 : V0.cell? ⟨gt, 7, none⟩ = some (.int .i64 tM) := HLT.out.cell 7
      have s8 : V0.cell? ⟨gt, 8, none⟩ = some (.int .i64 tK) := HLT.out.cell 8
      have s9 : V0.cell? ⟨gt, 9, none⟩ = some (.int .i64 tO) := HLT.out.cell 9
      have s10 : V0.cell? ⟨gt, 10, none⟩ = some (.int .i64 tP) := HLT.out.cell 10
      go_upto_region 7 with fail
      have HLT' := Lib.hid (HLT.out.alloc (.cells #[.string n, .int .i64 tT, .int .i64 (tT + 1), .int .i64 tC, .int .i64 tA, .int .i64 tS, .int .i64 tc, .int .i64 tM, .int .i64 tK, .int .i64 tO, .int .i64 tP] 32))
      have HLA := Lib.hid (Lies.made V0 32 #[.string n, .int .i64 tT, .int .i64 (tT + 1), .int .i64 tC, .int .i64 tA, .int .i64 tS, .int .i64 tc, .int .i64 tM, .int .i64 tK, .int .i64 tO, .int .i64 tP])
      have HB' := Lib.hid (HB.out.alloc HB.out.size (.cells #[.string n, .int .i64 tT, .int .i64 (tT + 1), .int .i64 tC, .int .i64 tA, .int .i64 tS, .int .i64 tc, .int .i64 tM, .int .i64 tK, .int .i64 tO, .int .i64 tP] 32))
      clear s0 s1 s2 s3 s4 s5 s6 s7 s8 s9 s10 HB HLT
      generalize V0.alloc (.cells #[.string n, .int .i64 tT, .int .i64 (tT + 1), .int .i64 tC, .int .i64 tA, .int .i64 tS, .int .i64 tc, .int .i64 tM, .int .i64 tK, .int .i64 tO, .int .i64 tP] 32) = V1 at HB' HLA HLT' ⊢
      generalize V0.heap.size = ga at HLA ⊢
      have HB := HB'
      clear HB'
      have HLT := HLT'
      clear HLT'
      have s0 : V1.cell? ⟨gt, 0, none⟩ = some (.string n) := HLT.out.cell 0
      have s1 : V1.cell? ⟨gt, 1, none⟩ = some (.int .i64 tT) := HLT.out.cell 1
      have s2 : V1.cell? ⟨gt, 2, none⟩ = some (.int .i64 tD) := HLT.out.cell 2
      have s3 : V1.cell? ⟨gt, 3, none⟩ = some (.int .i64 tC) := HLT.out.cell 3
      have s4 : V1.cell? ⟨gt, 4, none⟩ = some (.int .i64 tA) := HLT.out.cell 4
      have s5 : V1.cell? ⟨gt, 5, none⟩ = some (.int .i64 tS) := HLT.out.cell 5
      have s6 : V1.cell? ⟨gt, 6, none⟩ = some (.int .i64 tc) := HLT.out.cell 6
      have s7 : V1.cell? ⟨gt, 7, none⟩ = some (.int .i64 tM) := HLT.out.cell 7
      have s8 : V1.cell? ⟨gt, 8, none⟩ = some (.int .i64 tK) := HLT.out.cell 8
      have s9 : V1.cell? ⟨gt, 9, none⟩ = some (.int .i64 tO) := HLT.out.cell 9
      have s10 : V1.cell? ⟨gt, 10, none⟩ = some (.int .i64 tP) := HLT.out.cell 10
      go_upto_region 9 with fail
      have HLT' := Lib.hid (HLT.out.alloc (.cells #[.string n, .int .i64 1048576, .int .i64 tD, .int .i64 tC, .int .i64 tA, .int .i64 tS, .int .i64 tc, .int .i64 tM, .int .i64 tK, .int .i64 tO, .int .i64 tP] 32))
      have HLA' := Lib.hid (HLA.out.alloc (.cells #[.string n, .int .i64 1048576, .int .i64 tD, .int .i64 tC, .int .i64 tA, .int .i64 tS, .int .i64 tc, .int .i64 tM, .int .i64 tK, .int .i64 tO, .int .i64 tP] 32))
      have HLB := Lib.hid (Lies.made V1 32 #[.string n, .int .i64 1048576, .int .i64 tD, .int .i64 tC, .int .i64 tA, .int .i64 tS, .int .i64 tc, .int .i64 tM, .int .i64 tK, .int .i64 tO, .int .i64 tP])
      have HB' := Lib.hid (HB.out.alloc HB.out.size (.cells #[.string n, .int .i64 1048576, .int .i64 tD, .int .i64 tC, .int .i64 tA, .int .i64 tS, .int .i64 tc, .int .i64 tM, .int .i64 tK, .int .i64 tO, .int .i64 tP] 32))
      clear s0 s1 s2 s3 s4 s5 s6 s7 s8 s9 s10 HB HLT HLA
      generalize V1.alloc (.cells #[.string n, .int .i64 1048576, .int .i64 tD, .int .i64 tC, .int .i64 tA, .int .i64 tS, .int .i64 tc, .int .i64 tM, .int .i64 tK, .int .i64 tO, .int .i64 tP] 32) = V2 at HB' HLB HLT' HLA' ⊢
      generalize V1.heap.size = gb at HLB ⊢
      have HB := HB'
      clear HB'
      have HLT := HLT'
      have HLA := HLA'
      clear HLT' HLA'
      have s0 : V2.cell? ⟨gb, 0, none⟩ = some (.string n) := HLB.out.cell 0
      have s1 : V2.cell? ⟨gb, 1, none⟩ = some (.int .i64 1048576) := HLB.out.cell 1
      have s2 : V2.cell? ⟨gb, 2, none⟩ = some (.int .i64 tD) := HLB.out.cell 2
      have s3 : V2.cell? ⟨gb, 3, none⟩ = some (.int .i64 tC) := HLB.out.cell 3
      have s4 : V2.cell? ⟨gb, 4, none⟩ = some (.int .i64 tA) := HLB.out.cell 4
      have s5 : V2.cell? ⟨gb, 5, none⟩ = some (.int .i64 tS) := HLB.out.cell 5
      have s6 : V2.cell? ⟨gb, 6, none⟩ = some (.int .i64 tc) := HLB.out.cell 6
      have s7 : V2.cell? ⟨gb, 7, none⟩ = some (.int .i64 tM) := HLB.out.cell 7
      have s8 : V2.cell? ⟨gb, 8, none⟩ = some (.int .i64 tK) := HLB.out.cell 8
      have s9 : V2.cell? ⟨gb, 9, none⟩ = some (.int .i64 tO) := HLB.out.cell 9
      have s10 : V2.cell? ⟨gb, 10, none⟩ = some (.int .i64 tP) := HLB.out.cell 10
      go_upto_region 11 with fail
      have HLT' := Lib.hid (HLT.out.alloc (.cells #[.string n, .int .i64 1048577, .int .i64 tD, .int .i64 tC, .int .i64 tA, .int .i64 tS, .int .i64 tc, .int .i64 tM, .int .i64 tK, .int .i64 tO, .int .i64 tP] 32))
      have HLA' := Lib.hid (HLA.out.alloc (.cells #[.string n, .int .i64 1048577, .int .i64 tD, .int .i64 tC, .int .i64 tA, .int .i64 tS, .int .i64 tc, .int .i64 tM, .int .i64 tK, .int .i64 tO, .int .i64 tP] 32))
      have HLB' := Lib.hid (HLB.out.alloc (.cells #[.string n, .int .i64 1048577, .int .i64 tD, .int .i64 tC, .int .i64 tA, .int .i64 tS, .int .i64 tc, .int .i64 tM, .int .i64 tK, .int .i64 tO, .int .i64 tP] 32))
      have HLC := Lib.hid (Lies.made V2 32 #[.string n, .int .i64 1048577, .int .i64 tD, .int .i64 tC, .int .i64 tA, .int .i64 tS, .int .i64 tc, .int .i64 tM, .int .i64 tK, .int .i64 tO, .int .i64 tP])
      have HB' := Lib.hid (HB.out.alloc HB.out.size (.cells #[.string n, .int .i64 1048577, .int .i64 tD, .int .i64 tC, .int .i64 tA, .int .i64 tS, .int .i64 tc, .int .i64 tM, .int .i64 tK, .int .i64 tO, .int .i64 tP] 32))
      clear s0 s1 s2 s3 s4 s5 s6 s7 s8 s9 s10 HB HLT HLA HLB
      generalize V2.alloc (.cells #[.string n, .int .i64 1048577, .int .i64 tD, .int .i64 tC, .int .i64 tA, .int .i64 tS, .int .i64 tc, .int .i64 tM, .int .i64 tK, .int .i64 tO, .int .i64 tP] 32) = V3 at HB' HLC HLT' HLA' HLB' ⊢
      generalize V2.heap.size = gc at HLC ⊢
      have HB := HB'
      clear HB'
      have HLT := HLT'
      have HLA := HLA'
      have HLB := HLB'
      clear HLT' HLA' HLB'
      have s0 : V3.cell? ⟨gt, 0, none⟩ = some (.string n) := HLT.out.cell 0
      have s1 : V3.cell? ⟨gt, 1, none⟩ = some (.int .i64 tT) := HLT.out.cell 1
      have s2 : V3.cell? ⟨gt, 2, none⟩ = some (.int .i64 tD) := HLT.out.cell 2
      have s3 : V3.cell? ⟨gt, 3, none⟩ = some (.int .i64 tC) := HLT.out.cell 3
      have s4 : V3.cell? ⟨gt, 4, none⟩ = some (.int .i64 tA) := HLT.out.cell 4
      have s5 : V3.cell? ⟨gt, 5, none⟩ = some (.int .i64 tS) := HLT.out.cell 5
      have s6 : V3.cell? ⟨gt, 6, none⟩ = some (.int .i64 tc) := HLT.out.cell 6
      have s7 : V3.cell? ⟨gt, 7, none⟩ = some (.int .i64 tM) := HLT.out.cell 7
      have s8 : V3.cell? ⟨gt, 8, none⟩ = some (.int .i64 tK) := HLT.out.cell 8
      have s9 : V3.cell? ⟨gt, 9, none⟩ = some (.int .i64 tO) := HLT.out.cell 9
      have s10 : V3.cell? ⟨gt, 10, none⟩ = some (.int .i64 tP) := HLT.out.cell 10
      go_upto_region 14 with fail
      have HLT' := Lib.hid (HLT.out.alloc (.cells #[.string n, .int .i64 tT, .int .i64 tD, .int .i64 tC, .int .i64 tA, .int .i64 tS, .int .i64 tc, .int .i64 64, .int .i64 64, .int .i64 tO, .int .i64 tP] 32))
      have HLA' := Lib.hid (HLA.out.alloc (.cells #[.string n, .int .i64 tT, .int .i64 tD, .int .i64 tC, .int .i64 tA, .int .i64 tS, .int .i64 tc, .int .i64 64, .int .i64 64, .int .i64 tO, .int .i64 tP] 32))
      have HLB' := Lib.hid (HLB.out.alloc (.cells #[.string n, .int .i64 tT, .int .i64 tD, .int .i64 tC, .int .i64 tA, .int .i64 tS, .int .i64 tc, .int .i64 64, .int .i64 64, .int .i64 tO, .int .i64 tP] 32))
      have HLC' := Lib.hid (HLC.out.alloc (.cells #[.string n, .int .i64 tT, .int .i64 tD, .int .i64 tC, .int .i64 tA, .int .i64 tS, .int .i64 tc, .int .i64 64, .int .i64 64, .int .i64 tO, .int .i64 tP] 32))
      have HLD := Lib.hid (Lies.made V3 32 #[.string n, .int .i64 tT, .int .i64 tD, .int .i64 tC, .int .i64 tA, .int .i64 tS, .int .i64 tc, .int .i64 64, .int .i64 64, .int .i64 tO, .int .i64 tP])
      have HB' := Lib.hid (HB.out.alloc HB.out.size (.cells #[.string n, .int .i64 tT, .int .i64 tD, .int .i64 tC, .int .i64 tA, .int .i64 tS, .int .i64 tc, .int .i64 64, .int .i64 64, .int .i64 tO, .int .i64 tP] 32))
      clear s0 s1 s2 s3 s4 s5 s6 s7 s8 s9 s10 HB HLT HLA HLB HLC
      generalize V3.alloc (.cells #[.string n, .int .i64 tT, .int .i64 tD, .int .i64 tC, .int .i64 tA, .int .i64 tS, .int .i64 tc, .int .i64 64, .int .i64 64, .int .i64 tO, .int .i64 tP] 32) = V4 at HB' HLD HLT' HLA' HLB' HLC' ⊢
      generalize V3.heap.size = gd at HLD ⊢
      have HB := HB'
      clear HB'
      have HLT := HLT'
      have HLA := HLA'
      have HLB := HLB'
      have HLC := HLC'
      clear HLT' HLA' HLB' HLC'
      have s0 : V4.cell? ⟨gd, 0, none⟩ = some (.string n) := HLD.out.cell 0
      have s1 : V4.cell? ⟨gd, 1, none⟩ = some (.int .i64 tT) := HLD.out.cell 1
      have s2 : V4.cell? ⟨gd, 2, none⟩ = some (.int .i64 tD) := HLD.out.cell 2
      have s3 : V4.cell? ⟨gd, 3, none⟩ = some (.int .i64 tC) := HLD.out.cell 3
      have s4 : V4.cell? ⟨gd, 4, none⟩ = some (.int .i64 tA) := HLD.out.cell 4
      have s5 : V4.cell? ⟨gd, 5, none⟩ = some (.int .i64 tS) := HLD.out.cell 5
      have s6 : V4.cell? ⟨gd, 6, none⟩ = some (.int .i64 tc) := HLD.out.cell 6
      have s7 : V4.cell? ⟨gd, 7, none⟩ = some (.int .i64 64) := HLD.out.cell 7
      have s8 : V4.cell? ⟨gd, 8, none⟩ = some (.int .i64 64) := HLD.out.cell 8
      have s9 : V4.cell? ⟨gd, 9, none⟩ = some (.int .i64 tO) := HLD.out.cell 9
      have s10 : V4.cell? ⟨gd, 10, none⟩ = some (.int .i64 tP) := HLD.out.cell 10
      go_upto_region 16 with fail
      have HLT' := Lib.hid (HLT.out.alloc (.cells #[.string n, .int .i64 tT, .int .i64 tD, .int .i64 tC, .int .i64 tA, .int .i64 tS, .int .i64 tc, .int .i64 64, .int .i64 65, .int .i64 tO, .int .i64 tP] 32))
      have HLA' := Lib.hid (HLA.out.alloc (.cells #[.string n, .int .i64 tT, .int .i64 tD, .int .i64 tC, .int .i64 tA, .int .i64 tS, .int .i64 tc, .int .i64 64, .int .i64 65, .int .i64 tO, .int .i64 tP] 32))
      have HLB' := Lib.hid (HLB.out.alloc (.cells #[.string n, .int .i64 tT, .int .i64 tD, .int .i64 tC, .int .i64 tA, .int .i64 tS, .int .i64 tc, .int .i64 64, .int .i64 65, .int .i64 tO, .int .i64 tP] 32))
      have HLC' := Lib.hid (HLC.out.alloc (.cells #[.string n, .int .i64 tT, .int .i64 tD, .int .i64 tC, .int .i64 tA, .int .i64 tS, .int .i64 tc, .int .i64 64, .int .i64 65, .int .i64 tO, .int .i64 tP] 32))
      have HLD' := Lib.hid (HLD.out.alloc (.cells #[.string n, .int .i64 tT, .int .i64 tD, .int .i64 tC, .int .i64 tA, .int .i64 tS, .int .i64 tc, .int .i64 64, .int .i64 65, .int .i64 tO, .int .i64 tP] 32))
      have HLE := Lib.hid (Lies.made V4 32 #[.string n, .int .i64 tT, .int .i64 tD, .int .i64 tC, .int .i64 tA, .int .i64 tS, .int .i64 tc, .int .i64 64, .int .i64 65, .int .i64 tO, .int .i64 tP])
      have HB' := Lib.hid (HB.out.alloc HB.out.size (.cells #[.string n, .int .i64 tT, .int .i64 tD, .int .i64 tC, .int .i64 tA, .int .i64 tS, .int .i64 tc, .int .i64 64, .int .i64 65, .int .i64 tO, .int .i64 tP] 32))
      clear s0 s1 s2 s3 s4 s5 s6 s7 s8 s9 s10 HB HLT HLA HLB HLC HLD
      generalize V4.alloc (.cells #[.string n, .int .i64 tT, .int .i64 tD, .int .i64 tC, .int .i64 tA, .int .i64 tS, .int .i64 tc, .int .i64 64, .int .i64 65, .int .i64 tO, .int .i64 tP] 32) = V5 at HB' HLE HLT' HLA' HLB' HLC' HLD' ⊢
      generalize V4.heap.size = ge at HLE ⊢
      have HB := HB'
      clear HB'
      have HLT := HLT'
      have HLA := HLA'
      have HLB := HLB'
      have HLC := HLC'
      have HLD := HLD'
      clear HLT' HLA' HLB' HLC' HLD'
      have s0 : V5.cell? ⟨gt, 0, none⟩ = some (.string n) := HLT.out.cell 0
      have s1 : V5.cell? ⟨gt, 1, none⟩ = some (.int .i64 tT) := HLT.out.cell 1
      have s2 : V5.cell? ⟨gt, 2, none⟩ = some (.int .i64 tD) := HLT.out.cell 2
      have s3 : V5.cell? ⟨gt, 3, none⟩ = some (.int .i64 tC) := HLT.out.cell 3
      have s4 : V5.cell? ⟨gt, 4, none⟩ = some (.int .i64 tA) := HLT.out.cell 4
      have s5 : V5.cell? ⟨gt, 5, none⟩ = some (.int .i64 tS) := HLT.out.cell 5
      have s6 : V5.cell? ⟨gt, 6, none⟩ = some (.int .i64 tc) := HLT.out.cell 6
      have s7 : V5.cell? ⟨gt, 7, none⟩ = some (.int .i64 tM) := HLT.out.cell 7
      have s8 : V5.cell? ⟨gt, 8, none⟩ = some (.int .i64 tK) := HLT.out.cell 8
      have s9 : V5.cell? ⟨gt, 9, none⟩ = some (.int .i64 tO) := HLT.out.cell 9
      have s10 : V5.cell? ⟨gt, 10, none⟩ = some (.int .i64 tP) := HLT.out.cell 10
      go_upto_region 18 with fail
      have HLT' := Lib.hid (HLT.out.alloc (.cells #[.string n, .int .i64 tT, .int .i64 tD, .int .i64 tC, .int .i64 tA, .int .i64 tS, .int .i64 1000, .int .i64 tM, .int .i64 tK, .int .i64 tO, .int .i64 tP] 32))
      have HLA' := Lib.hid (HLA.out.alloc (.cells #[.string n, .int .i64 tT, .int .i64 tD, .int .i64 tC, .int .i64 tA, .int .i64 tS, .int .i64 1000, .int .i64 tM, .int .i64 tK, .int .i64 tO, .int .i64 tP] 32))
      have HLB' := Lib.hid (HLB.out.alloc (.cells #[.string n, .int .i64 tT, .int .i64 tD, .int .i64 tC, .int .i64 tA, .int .i64 tS, .int .i64 1000, .int .i64 tM, .int .i64 tK, .int .i64 tO, .int .i64 tP] 32))
      have HLC' := Lib.hid (HLC.out.alloc (.cells #[.string n, .int .i64 tT, .int .i64 tD, .int .i64 tC, .int .i64 tA, .int .i64 tS, .int .i64 1000, .int .i64 tM, .int .i64 tK, .int .i64 tO, .int .i64 tP] 32))
      have HLD' := Lib.hid (HLD.out.alloc (.cells #[.string n, .int .i64 tT, .int .i64 tD, .int .i64 tC, .int .i64 tA, .int .i64 tS, .int .i64 1000, .int .i64 tM, .int .i64 tK, .int .i64 tO, .int .i64 tP] 32))
      have HLE' := Lib.hid (HLE.out.alloc (.cells #[.string n, .int .i64 tT, .int .i64 tD, .int .i64 tC, .int .i64 tA, .int .i64 tS, .int .i64 1000, .int .i64 tM, .int .i64 tK, .int .i64 tO, .int .i64 tP] 32))
      have HLF := Lib.hid (Lies.made V5 32 #[.string n, .int .i64 tT, .int .i64 tD, .int .i64 tC, .int .i64 tA, .int .i64 tS, .int .i64 1000, .int .i64 tM, .int .i64 tK, .int .i64 tO, .int .i64 tP])
      have HB' := Lib.hid (HB.out.alloc HB.out.size (.cells #[.string n, .int .i64 tT, .int .i64 tD, .int .i64 tC, .int .i64 tA, .int .i64 tS, .int .i64 1000, .int .i64 tM, .int .i64 tK, .int .i64 tO, .int .i64 tP] 32))
      clear s0 s1 s2 s3 s4 s5 s6 s7 s8 s9 s10 HB HLT HLA HLB HLC HLD HLE
      generalize V5.alloc (.cells #[.string n, .int .i64 tT, .int .i64 tD, .int .i64 tC, .int .i64 tA, .int .i64 tS, .int .i64 1000, .int .i64 tM, .int .i64 tK, .int .i64 tO, .int .i64 tP] 32) = V6 at HB' HLF HLT' HLA' HLB' HLC' HLD' HLE' ⊢
      generalize V5.heap.size = gf at HLF ⊢
      have HB := HB'
      clear HB'
      have HLT := HLT'
      have HLA := HLA'
      have HLB := HLB'
      have HLC := HLC'
      have HLD := HLD'
      have HLE := HLE'
      clear HLT' HLA' HLB' HLC' HLD' HLE'
      have s0 : V6.cell? ⟨gt, 0, none⟩ = some (.string n) := HLT.out.cell 0
      have s1 : V6.cell? ⟨gt, 1, none⟩ = some (.int .i64 tT) := HLT.out.cell 1
      have s2 : V6.cell? ⟨gt, 2, none⟩ = some (.int .i64 tD) := HLT.out.cell 2
      have s3 : V6.cell? ⟨gt, 3, none⟩ = some (.int .i64 tC) := HLT.out.cell 3
      have s4 : V6.cell? ⟨gt, 4, none⟩ = some (.int .i64 tA) := HLT.out.cell 4
      have s5 : V6.cell? ⟨gt, 5, none⟩ = some (.int .i64 tS) := HLT.out.cell 5
      have s6 : V6.cell? ⟨gt, 6, none⟩ = some (.int .i64 tc) := HLT.out.cell 6
      have s7 : V6.cell? ⟨gt, 7, none⟩ = some (.int .i64 tM) := HLT.out.cell 7
      have s8 : V6.cell? ⟨gt, 8, none⟩ = some (.int .i64 tK) := HLT.out.cell 8
      have s9 : V6.cell? ⟨gt, 9, none⟩ = some (.int .i64 tO) := HLT.out.cell 9
      have s10 : V6.cell? ⟨gt, 10, none⟩ = some (.int .i64 tP) := HLT.out.cell 10
      go_upto_region 20 with fail
      have HLT' := Lib.hid (HLT.out.alloc (.cells #[.string n, .int .i64 tT, .int .i64 tD, .int .i64 tC, .int .i64 tA, .int .i64 tS, .int .i64 1001, .int .i64 tM, .int .i64 tK, .int .i64 tO, .int .i64 tP] 32))
      have HLA' := Lib.hid (HLA.out.alloc (.cells #[.string n, .int .i64 tT, .int .i64 tD, .int .i64 tC, .int .i64 tA, .int .i64 tS, .int .i64 1001, .int .i64 tM, .int .i64 tK, .int .i64 tO, .int .i64 tP] 32))
      have HLB' := Lib.hid (HLB.out.alloc (.cells #[.string n, .int .i64 tT, .int .i64 tD, .int .i64 tC, .int .i64 tA, .int .i64 tS, .int .i64 1001, .int .i64 tM, .int .i64 tK, .int .i64 tO, .int .i64 tP] 32))
      have HLC' := Lib.hid (HLC.out.alloc (.cells #[.string n, .int .i64 tT, .int .i64 tD, .int .i64 tC, .int .i64 tA, .int .i64 tS, .int .i64 1001, .int .i64 tM, .int .i64 tK, .int .i64 tO, .int .i64 tP] 32))
      have HLD' := Lib.hid (HLD.out.alloc (.cells #[.string n, .int .i64 tT, .int .i64 tD, .int .i64 tC, .int .i64 tA, .int .i64 tS, .int .i64 1001, .int .i64 tM, .int .i64 tK, .int .i64 tO, .int .i64 tP] 32))
      have HLE' := Lib.hid (HLE.out.alloc (.cells #[.string n, .int .i64 tT, .int .i64 tD, .int .i64 tC, .int .i64 tA, .int .i64 tS, .int .i64 1001, .int .i64 tM, .int .i64 tK, .int .i64 tO, .int .i64 tP] 32))
      have HLF' := Lib.hid (HLF.out.alloc (.cells #[.string n, .int .i64 tT, .int .i64 tD, .int .i64 tC, .int .i64 tA, .int .i64 tS, .int .i64 1001, .int .i64 tM, .int .i64 tK, .int .i64 tO, .int .i64 tP] 32))
      have HLG := Lib.hid (Lies.made V6 32 #[.string n, .int .i64 tT, .int .i64 tD, .int .i64 tC, .int .i64 tA, .int .i64 tS, .int .i64 1001, .int .i64 tM, .int .i64 tK, .int .i64 tO, .int .i64 tP])
      have HB' := Lib.hid (HB.out.alloc HB.out.size (.cells #[.string n, .int .i64 tT, .int .i64 tD, .int .i64 tC, .int .i64 tA, .int .i64 tS, .int .i64 1001, .int .i64 tM, .int .i64 tK, .int .i64 tO, .int .i64 tP] 32))
      clear s0 s1 s2 s3 s4 s5 s6 s7 s8 s9 s10 HB HLT HLA HLB HLC HLD HLE HLF
      generalize V6.alloc (.cells #[.string n, .int .i64 tT, .int .i64 tD, .int .i64 tC, .int .i64 tA, .int .i64 tS, .int .i64 1001, .int .i64 tM, .int .i64 tK, .int .i64 tO, .int .i64 tP] 32) = V7 at HB' HLG HLT' HLA' HLB' HLC' HLD' HLE' HLF' ⊢
      generalize V6.heap.size = gg at HLG ⊢
      have HB := HB'
      clear HB'
      have HLT := HLT'
      have HLA := HLA'
      have HLB := HLB'
      have HLC := HLC'
      have HLD := HLD'
      have HLE := HLE'
      have HLF := HLF'
      clear HLT' HLA' HLB' HLC' HLD' HLE' HLF'
      have s0 : V7.cell? ⟨gt, 0, none⟩ = some (.string n) := HLT.out.cell 0
      have s1 : V7.cell? ⟨gt, 1, none⟩ = some (.int .i64 tT) := HLT.out.cell 1
      have s2 : V7.cell? ⟨gt, 2, none⟩ = some (.int .i64 tD) := HLT.out.cell 2
      have s3 : V7.cell? ⟨gt, 3, none⟩ = some (.int .i64 tC) := HLT.out.cell 3
      have s4 : V7.cell? ⟨gt, 4, none⟩ = some (.int .i64 tA) := HLT.out.cell 4
      have s5 : V7.cell? ⟨gt, 5, none⟩ = some (.int .i64 tS) := HLT.out.cell 5
      have s6 : V7.cell? ⟨gt, 6, none⟩ = some (.int .i64 tc) := HLT.out.cell 6
      have s7 : V7.cell? ⟨gt, 7, none⟩ = some (.int .i64 tM) := HLT.out.cell 7
      have s8 : V7.cell? ⟨gt, 8, none⟩ = some (.int .i64 tK) := HLT.out.cell 8
      have s9 : V7.cell? ⟨gt, 9, none⟩ = some (.int .i64 tO) := HLT.out.cell 9
      have s10 : V7.cell? ⟨gt, 10, none⟩ = some (.int .i64 tP) := HLT.out.cell 10
      go_upto_region 22 with fail
      have HLT' := Lib.hid (HLT.out.alloc (.cells #[.string n, .int .i64 tT, .int .i64 tD, .int .i64 tC, .int .i64 tA, .int .i64 tS, .int .i64 tc, .int .i64 tM, .int .i64 tK, .int .i64 tO, .int .i64 255] 32))
      have HLA' := Lib.hid (HLA.out.alloc (.cells #[.string n, .int .i64 tT, .int .i64 tD, .int .i64 tC, .int .i64 tA, .int .i64 tS, .int .i64 tc, .int .i64 tM, .int .i64 tK, .int .i64 tO, .int .i64 255] 32))
      have HLB' := Lib.hid (HLB.out.alloc (.cells #[.string n, .int .i64 tT, .int .i64 tD, .int .i64 tC, .int .i64 tA, .int .i64 tS, .int .i64 tc, .int .i64 tM, .int .i64 tK, .int .i64 tO, .int .i64 255] 32))
      have HLC' := Lib.hid (HLC.out.alloc (.cells #[.string n, .int .i64 tT, .int .i64 tD, .int .i64 tC, .int .i64 tA, .int .i64 tS, .int .i64 tc, .int .i64 tM, .int .i64 tK, .int .i64 tO, .int .i64 255] 32))
      have HLD' := Lib.hid (HLD.out.alloc (.cells #[.string n, .int .i64 tT, .int .i64 tD, .int .i64 tC, .int .i64 tA, .int .i64 tS, .int .i64 tc, .int .i64 tM, .int .i64 tK, .int .i64 tO, .int .i64 255] 32))
      have HLE' := Lib.hid (HLE.out.alloc (.cells #[.string n, .int .i64 tT, .int .i64 tD, .int .i64 tC, .int .i64 tA, .int .i64 tS, .int .i64 tc, .int .i64 tM, .int .i64 tK, .int .i64 tO, .int .i64 255] 32))
      have HLF' := Lib.hid (HLF.out.alloc (.cells #[.string n, .int .i64 tT, .int .i64 tD, .int .i64 tC, .int .i64 tA, .int .i64 tS, .int .i64 tc, .int .i64 tM, .int .i64 tK, .int .i64 tO, .int .i64 255] 32))
      have HLG' := Lib.hid (HLG.out.alloc (.cells #[.string n, .int .i64 tT, .int .i64 tD, .int .i64 tC, .int .i64 tA, .int .i64 tS, .int .i64 tc, .int .i64 tM, .int .i64 tK, .int .i64 tO, .int .i64 255] 32))
      have HLH := Lib.hid (Lies.made V7 32 #[.string n, .int .i64 tT, .int .i64 tD, .int .i64 tC, .int .i64 tA, .int .i64 tS, .int .i64 tc, .int .i64 tM, .int .i64 tK, .int .i64 tO, .int .i64 255])
      have HB' := Lib.hid (HB.out.alloc HB.out.size (.cells #[.string n, .int .i64 tT, .int .i64 tD, .int .i64 tC, .int .i64 tA, .int .i64 tS, .int .i64 tc, .int .i64 tM, .int .i64 tK, .int .i64 tO, .int .i64 255] 32))
      clear s0 s1 s2 s3 s4 s5 s6 s7 s8 s9 s10 HB HLT HLA HLB HLC HLD HLE HLF HLG
      generalize V7.alloc (.cells #[.string n, .int .i64 tT, .int .i64 tD, .int .i64 tC, .int .i64 tA, .int .i64 tS, .int .i64 tc, .int .i64 tM, .int .i64 tK, .int .i64 tO, .int .i64 255] 32) = V8 at HB' HLH HLT' HLA' HLB' HLC' HLD' HLE' HLF' HLG' ⊢
      generalize V7.heap.size = gh at HLH ⊢
      have HB := HB'
      clear HB'
      have HLT := HLT'
      have HLA := HLA'
      have HLB := HLB'
      have HLC := HLC'
      have HLD := HLD'
      have HLE := HLE'
      have HLF := HLF'
      have HLG := HLG'
      clear HLT' HLA' HLB' HLC' HLD' HLE' HLF' HLG'
      have s0 : V8.cell? ⟨gt, 0, none⟩ = some (.string n) := HLT.out.cell 0
      have s1 : V8.cell? ⟨gt, 1, none⟩ = some (.int .i64 tT) := HLT.out.cell 1
      have s2 : V8.cell? ⟨gt, 2, none⟩ = some (.int .i64 tD) := HLT.out.cell 2
      have s3 : V8.cell? ⟨gt, 3, none⟩ = some (.int .i64 tC) := HLT.out.cell 3
      have s4 : V8.cell? ⟨gt, 4, none⟩ = some (.int .i64 tA) := HLT.out.cell 4
      have s5 : V8.cell? ⟨gt, 5, none⟩ = some (.int .i64 tS) := HLT.out.cell 5
      have s6 : V8.cell? ⟨gt, 6, none⟩ = some (.int .i64 tc) := HLT.out.cell 6
      have s7 : V8.cell? ⟨gt, 7, none⟩ = some (.int .i64 tM) := HLT.out.cell 7
      have s8 : V8.cell? ⟨gt, 8, none⟩ = some (.int .i64 tK) := HLT.out.cell 8
      have s9 : V8.cell? ⟨gt, 9, none⟩ = some (.int .i64 tO) := HLT.out.cell 9
      have s10 : V8.cell? ⟨gt, 10, none⟩ = some (.int .i64 tP) := HLT.out.cell 10
      go_upto_region 24 with fail
      have HLT' := Lib.hid (HLT.out.alloc (.cells #[.string n, .int .i64 tT, .int .i64 tD, .int .i64 tC, .int .i64 tA, .int .i64 tS, .int .i64 tc, .int .i64 tM, .int .i64 tK, .int .i64 tO, .int .i64 256] 32))
      have HLA' := Lib.hid (HLA.out.alloc (.cells #[.string n, .int .i64 tT, .int .i64 tD, .int .i64 tC, .int .i64 tA, .int .i64 tS, .int .i64 tc, .int .i64 tM, .int .i64 tK, .int .i64 tO, .int .i64 256] 32))
      have HLB' := Lib.hid (HLB.out.alloc (.cells #[.string n, .int .i64 tT, .int .i64 tD, .int .i64 tC, .int .i64 tA, .int .i64 tS, .int .i64 tc, .int .i64 tM, .int .i64 tK, .int .i64 tO, .int .i64 256] 32))
      have HLC' := Lib.hid (HLC.out.alloc (.cells #[.string n, .int .i64 tT, .int .i64 tD, .int .i64 tC, .int .i64 tA, .int .i64 tS, .int .i64 tc, .int .i64 tM, .int .i64 tK, .int .i64 tO, .int .i64 256] 32))
      have HLD' := Lib.hid (HLD.out.alloc (.cells #[.string n, .int .i64 tT, .int .i64 tD, .int .i64 tC, .int .i64 tA, .int .i64 tS, .int .i64 tc, .int .i64 tM, .int .i64 tK, .int .i64 tO, .int .i64 256] 32))
      have HLE' := Lib.hid (HLE.out.alloc (.cells #[.string n, .int .i64 tT, .int .i64 tD, .int .i64 tC, .int .i64 tA, .int .i64 tS, .int .i64 tc, .int .i64 tM, .int .i64 tK, .int .i64 tO, .int .i64 256] 32))
      have HLF' := Lib.hid (HLF.out.alloc (.cells #[.string n, .int .i64 tT, .int .i64 tD, .int .i64 tC, .int .i64 tA, .int .i64 tS, .int .i64 tc, .int .i64 tM, .int .i64 tK, .int .i64 tO, .int .i64 256] 32))
      have HLG' := Lib.hid (HLG.out.alloc (.cells #[.string n, .int .i64 tT, .int .i64 tD, .int .i64 tC, .int .i64 tA, .int .i64 tS, .int .i64 tc, .int .i64 tM, .int .i64 tK, .int .i64 tO, .int .i64 256] 32))
      have HLH' := Lib.hid (HLH.out.alloc (.cells #[.string n, .int .i64 tT, .int .i64 tD, .int .i64 tC, .int .i64 tA, .int .i64 tS, .int .i64 tc, .int .i64 tM, .int .i64 tK, .int .i64 tO, .int .i64 256] 32))
      have HLK := Lib.hid (Lies.made V8 32 #[.string n, .int .i64 tT, .int .i64 tD, .int .i64 tC, .int .i64 tA, .int .i64 tS, .int .i64 tc, .int .i64 tM, .int .i64 tK, .int .i64 tO, .int .i64 256])
      have HB' := Lib.hid (HB.out.alloc HB.out.size (.cells #[.string n, .int .i64 tT, .int .i64 tD, .int .i64 tC, .int .i64 tA, .int .i64 tS, .int .i64 tc, .int .i64 tM, .int .i64 tK, .int .i64 tO, .int .i64 256] 32))
      clear s0 s1 s2 s3 s4 s5 s6 s7 s8 s9 s10 HB HLT HLA HLB HLC HLD HLE HLF HLG HLH
      generalize V8.alloc (.cells #[.string n, .int .i64 tT, .int .i64 tD, .int .i64 tC, .int .i64 tA, .int .i64 tS, .int .i64 tc, .int .i64 tM, .int .i64 tK, .int .i64 tO, .int .i64 256] 32) = V9 at HB' HLK HLT' HLA' HLB' HLC' HLD' HLE' HLF' HLG' HLH' ⊢
      generalize V8.heap.size = gk at HLK ⊢
      have HB := HB'
      clear HB'
      have HLT := HLT'
      have HLA := HLA'
      have HLB := HLB'
      have HLC := HLC'
      have HLD := HLD'
      have HLE := HLE'
      have HLF := HLF'
      have HLG := HLG'
      have HLH := HLH'
      clear HLT' HLA' HLB' HLC' HLD' HLE' HLF' HLG' HLH'
      have HBW := Lib.hid (Below.refl V9.heap.size V9)
      have s0 : V9.cell? ⟨ga, 0, none⟩ = some (.string n) := (HLA.out.below HBW.out HLA.out.lt).cell 0
      have s1 : V9.cell? ⟨ga, 1, none⟩ = some (.int .i64 tT) := (HLA.out.below HBW.out HLA.out.lt).cell 1
      have s2 : V9.cell? ⟨ga, 2, none⟩ = some (.int .i64 (tT + 1)) := (HLA.out.below HBW.out HLA.out.lt).cell 2
      have s3 : V9.cell? ⟨ga, 3, none⟩ = some (.int .i64 tC) := (HLA.out.below HBW.out HLA.out.lt).cell 3
      have s4 : V9.cell? ⟨ga, 4, none⟩ = some (.int .i64 tA) := (HLA.out.below HBW.out HLA.out.lt).cell 4
      have s5 : V9.cell? ⟨ga, 5, none⟩ = some (.int .i64 tS) := (HLA.out.below HBW.out HLA.out.lt).cell 5
      have s6 : V9.cell? ⟨ga, 6, none⟩ = some (.int .i64 tc) := (HLA.out.below HBW.out HLA.out.lt).cell 6
      have s7 : V9.cell? ⟨ga, 7, none⟩ = some (.int .i64 tM) := (HLA.out.below HBW.out HLA.out.lt).cell 7
      have s8 : V9.cell? ⟨ga, 8, none⟩ = some (.int .i64 tK) := (HLA.out.below HBW.out HLA.out.lt).cell 8
      have s9 : V9.cell? ⟨ga, 9, none⟩ = some (.int .i64 tO) := (HLA.out.below HBW.out HLA.out.lt).cell 9
      have s10 : V9.cell? ⟨ga, 10, none⟩ = some (.int .i64 tP) := (HLA.out.below HBW.out HLA.out.lt).cell 10
      have KO := Lib.hid (oneTask n tT (tT + 1) tC tA tS tc tM tK tO tP 4 V9 (edge_a HFIT.out))
      go_wp2_with (fail)
      with_reducible refine KO.out.mono ?_
      rintro e z1 ⟨rfl, hb⟩
      have HBX := Lib.hid (HBW.out.trans (hb.mono HBW.out.size))
      clear hb KO HBW s0 s1 s2 s3 s4 s5 s6 s7 s8 s9 s10
      have HBW := HBX
      clear HBX
      have s0 : z1.cell? ⟨gb, 0, none⟩ = some (.string n) := (HLB.out.below HBW.out HLB.out.lt).cell 0
      have s1 : z1.cell? ⟨gb, 1, none⟩ = some (.int .i64 1048576) := (HLB.out.below HBW.out HLB.out.lt).cell 1
      have s2 : z1.cell? ⟨gb, 2, none⟩ = some (.int .i64 tD) := (HLB.out.below HBW.out HLB.out.lt).cell 2
      have s3 : z1.cell? ⟨gb, 3, none⟩ = some (.int .i64 tC) := (HLB.out.below HBW.out HLB.out.lt).cell 3
      have s4 : z1.cell? ⟨gb, 4, none⟩ = some (.int .i64 tA) := (HLB.out.below HBW.out HLB.out.lt).cell 4
      have s5 : z1.cell? ⟨gb, 5, none⟩ = some (.int .i64 tS) := (HLB.out.below HBW.out HLB.out.lt).cell 5
      have s6 : z1.cell? ⟨gb, 6, none⟩ = some (.int .i64 tc) := (HLB.out.below HBW.out HLB.out.lt).cell 6
      have s7 : z1.cell? ⟨gb, 7, none⟩ = some (.int .i64 tM) := (HLB.out.below HBW.out HLB.out.lt).cell 7
      have s8 : z1.cell? ⟨gb, 8, none⟩ = some (.int .i64 tK) := (HLB.out.below HBW.out HLB.out.lt).cell 8
      have s9 : z1.cell? ⟨gb, 9, none⟩ = some (.int .i64 tO) := (HLB.out.below HBW.out HLB.out.lt).cell 9
      have s10 : z1.cell? ⟨gb, 10, none⟩ = some (.int .i64 tP) := (HLB.out.below HBW.out HLB.out.lt).cell 10
      have KO := Lib.hid (oneTask n 1048576 tD tC tA tS tc tM tK tO tP 0 z1 (edge_b HFIT.out))
      go_wp2_with (fail)
      with_reducible refine KO.out.mono ?_
      rintro e z2 ⟨rfl, hb⟩
      have HBX := Lib.hid (HBW.out.trans (hb.mono HBW.out.size))
      clear hb KO HBW s0 s1 s2 s3 s4 s5 s6 s7 s8 s9 s10
      have HBW := HBX
      clear HBX
      have s0 : z2.cell? ⟨gc, 0, none⟩ = some (.string n) := (HLC.out.below HBW.out HLC.out.lt).cell 0
      have s1 : z2.cell? ⟨gc, 1, none⟩ = some (.int .i64 1048577) := (HLC.out.below HBW.out HLC.out.lt).cell 1
      have s2 : z2.cell? ⟨gc, 2, none⟩ = some (.int .i64 tD) := (HLC.out.below HBW.out HLC.out.lt).cell 2
      have s3 : z2.cell? ⟨gc, 3, none⟩ = some (.int .i64 tC) := (HLC.out.below HBW.out HLC.out.lt).cell 3
      have s4 : z2.cell? ⟨gc, 4, none⟩ = some (.int .i64 tA) := (HLC.out.below HBW.out HLC.out.lt).cell 4
      have s5 : z2.cell? ⟨gc, 5, none⟩ = some (.int .i64 tS) := (HLC.out.below HBW.out HLC.out.lt).cell 5
      have s6 : z2.cell? ⟨gc, 6, none⟩ = some (.int .i64 tc) := (HLC.out.below HBW.out HLC.out.lt).cell 6
      have s7 : z2.cell? ⟨gc, 7, none⟩ = some (.int .i64 tM) := (HLC.out.below HBW.out HLC.out.lt).cell 7
      have s8 : z2.cell? ⟨gc, 8, none⟩ = some (.int .i64 tK) := (HLC.out.below HBW.out HLC.out.lt).cell 8
      have s9 : z2.cell? ⟨gc, 9, none⟩ = some (.int .i64 tO) := (HLC.out.below HBW.out HLC.out.lt).cell 9
      have s10 : z2.cell? ⟨gc, 10, none⟩ = some (.int .i64 tP) := (HLC.out.below HBW.out HLC.out.lt).cell 10
      have KO := Lib.hid (oneTask n 1048577 tD tC tA tS tc tM tK tO tP 4 z2 (edge_c HFIT.out))
      go_wp2_with (fail)
      with_reducible refine KO.out.mono ?_
      rintro e z3 ⟨rfl, hb⟩
      have HBX := Lib.hid (HBW.out.trans (hb.mono HBW.out.size))
      clear hb KO HBW s0 s1 s2 s3 s4 s5 s6 s7 s8 s9 s10
      have HBW := HBX
      clear HBX
      have s0 : z3.cell? ⟨gd, 0, none⟩ = some (.string n) := (HLD.out.below HBW.out HLD.out.lt).cell 0
      have s1 : z3.cell? ⟨gd, 1, none⟩ = some (.int .i64 tT) := (HLD.out.below HBW.out HLD.out.lt).cell 1
      have s2 : z3.cell? ⟨gd, 2, none⟩ = some (.int .i64 tD) := (HLD.out.below HBW.out HLD.out.lt).cell 2
      have s3 : z3.cell? ⟨gd, 3, none⟩ = some (.int .i64 tC) := (HLD.out.below HBW.out HLD.out.lt).cell 3
      have s4 : z3.cell? ⟨gd, 4, none⟩ = some (.int .i64 tA) := (HLD.out.below HBW.out HLD.out.lt).cell 4
      have s5 : z3.cell? ⟨gd, 5, none⟩ = some (.int .i64 tS) := (HLD.out.below HBW.out HLD.out.lt).cell 5
      have s6 : z3.cell? ⟨gd, 6, none⟩ = some (.int .i64 tc) := (HLD.out.below HBW.out HLD.out.lt).cell 6
      have s7 : z3.cell? ⟨gd, 7, none⟩ = some (.int .i64 64) := (HLD.out.below HBW.out HLD.out.lt).cell 7
      have s8 : z3.cell? ⟨gd, 8, none⟩ = some (.int .i64 64) := (HLD.out.below HBW.out HLD.out.lt).cell 8
      have s9 : z3.cell? ⟨gd, 9, none⟩ = some (.int .i64 tO) := (HLD.out.below HBW.out HLD.out.lt).cell 9
      have s10 : z3.cell? ⟨gd, 10, none⟩ = some (.int .i64 tP) := (HLD.out.below HBW.out HLD.out.lt).cell 10
      have KO := Lib.hid (oneTask n tT tD tC tA tS tc 64 64 tO tP 0 z3 (edge_d HFIT.out))
      go_wp2_with (fail)
      with_reducible refine KO.out.mono ?_
      rintro e z4 ⟨rfl, hb⟩
      have HBX := Lib.hid (HBW.out.trans (hb.mono HBW.out.size))
      clear hb KO HBW s0 s1 s2 s3 s4 s5 s6 s7 s8 s9 s10
      have HBW := HBX
      clear HBX
      have s0 : z4.cell? ⟨ge, 0, none⟩ = some (.string n) := (HLE.out.below HBW.out HLE.out.lt).cell 0
      have s1 : z4.cell? ⟨ge, 1, none⟩ = some (.int .i64 tT) := (HLE.out.below HBW.out HLE.out.lt).cell 1
      have s2 : z4.cell? ⟨ge, 2, none⟩ = some (.int .i64 tD) := (HLE.out.below HBW.out HLE.out.lt).cell 2
      have s3 : z4.cell? ⟨ge, 3, none⟩ = some (.int .i64 tC) := (HLE.out.below HBW.out HLE.out.lt).cell 3
      have s4 : z4.cell? ⟨ge, 4, none⟩ = some (.int .i64 tA) := (HLE.out.below HBW.out HLE.out.lt).cell 4
      have s5 : z4.cell? ⟨ge, 5, none⟩ = some (.int .i64 tS) := (HLE.out.below HBW.out HLE.out.lt).cell 5
      have s6 : z4.cell? ⟨ge, 6, none⟩ = some (.int .i64 tc) := (HLE.out.below HBW.out HLE.out.lt).cell 6
      have s7 : z4.cell? ⟨ge, 7, none⟩ = some (.int .i64 64) := (HLE.out.below HBW.out HLE.out.lt).cell 7
      have s8 : z4.cell? ⟨ge, 8, none⟩ = some (.int .i64 65) := (HLE.out.below HBW.out HLE.out.lt).cell 8
      have s9 : z4.cell? ⟨ge, 9, none⟩ = some (.int .i64 tO) := (HLE.out.below HBW.out HLE.out.lt).cell 9
      have s10 : z4.cell? ⟨ge, 10, none⟩ = some (.int .i64 tP) := (HLE.out.below HBW.out HLE.out.lt).cell 10
      have KO := Lib.hid (oneTask n tT tD tC tA tS tc 64 65 tO tP 6 z4 (edge_e HFIT.out))
      go_wp2_with (fail)
      with_reducible refine KO.out.mono ?_
      rintro e z5 ⟨rfl, hb⟩
      have HBX := Lib.hid (HBW.out.trans (hb.mono HBW.out.size))
      clear hb KO HBW s0 s1 s2 s3 s4 s5 s6 s7 s8 s9 s10
      have HBW := HBX
      clear HBX
      have s0 : z5.cell? ⟨gf, 0, none⟩ = some (.string n) := (HLF.out.below HBW.out HLF.out.lt).cell 0
      have s1 : z5.cell? ⟨gf, 1, none⟩ = some (.int .i64 tT) := (HLF.out.below HBW.out HLF.out.lt).cell 1
      have s2 : z5.cell? ⟨gf, 2, none⟩ = some (.int .i64 tD) := (HLF.out.below HBW.out HLF.out.lt).cell 2
      have s3 : z5.cell? ⟨gf, 3, none⟩ = some (.int .i64 tC) := (HLF.out.below HBW.out HLF.out.lt).cell 3
      have s4 : z5.cell? ⟨gf, 4, none⟩ = some (.int .i64 tA) := (HLF.out.below HBW.out HLF.out.lt).cell 4
      have s5 : z5.cell? ⟨gf, 5, none⟩ = some (.int .i64 tS) := (HLF.out.below HBW.out HLF.out.lt).cell 5
      have s6 : z5.cell? ⟨gf, 6, none⟩ = some (.int .i64 1000) := (HLF.out.below HBW.out HLF.out.lt).cell 6
      have s7 : z5.cell? ⟨gf, 7, none⟩ = some (.int .i64 tM) := (HLF.out.below HBW.out HLF.out.lt).cell 7
      have s8 : z5.cell? ⟨gf, 8, none⟩ = some (.int .i64 tK) := (HLF.out.below HBW.out HLF.out.lt).cell 8
      have s9 : z5.cell? ⟨gf, 9, none⟩ = some (.int .i64 tO) := (HLF.out.below HBW.out HLF.out.lt).cell 9
      have s10 : z5.cell? ⟨gf, 10, none⟩ = some (.int .i64 tP) := (HLF.out.below HBW.out HLF.out.lt).cell 10
      have KO := Lib.hid (oneTask n tT tD tC tA tS 1000 tM tK tO tP 0 z5 (edge_f HFIT.out))
      go_wp2_with (fail)
      with_reducible refine KO.out.mono ?_
      rintro e z6 ⟨rfl, hb⟩
      have HBX := Lib.hid (HBW.out.trans (hb.mono HBW.out.size))
      clear hb KO HBW s0 s1 s2 s3 s4 s5 s6 s7 s8 s9 s10
      have HBW := HBX
      clear HBX
      have s0 : z6.cell? ⟨gg, 0, none⟩ = some (.string n) := (HLG.out.below HBW.out HLG.out.lt).cell 0
      have s1 : z6.cell? ⟨gg, 1, none⟩ = some (.int .i64 tT) := (HLG.out.below HBW.out HLG.out.lt).cell 1
      have s2 : z6.cell? ⟨gg, 2, none⟩ = some (.int .i64 tD) := (HLG.out.below HBW.out HLG.out.lt).cell 2
      have s3 : z6.cell? ⟨gg, 3, none⟩ = some (.int .i64 tC) := (HLG.out.below HBW.out HLG.out.lt).cell 3
      have s4 : z6.cell? ⟨gg, 4, none⟩ = some (.int .i64 tA) := (HLG.out.below HBW.out HLG.out.lt).cell 4
      have s5 : z6.cell? ⟨gg, 5, none⟩ = some (.int .i64 tS) := (HLG.out.below HBW.out HLG.out.lt).cell 5
      have s6 : z6.cell? ⟨gg, 6, none⟩ = some (.int .i64 1001) := (HLG.out.below HBW.out HLG.out.lt).cell 6
      have s7 : z6.cell? ⟨gg, 7, none⟩ = some (.int .i64 tM) := (HLG.out.below HBW.out HLG.out.lt).cell 7
      have s8 : z6.cell? ⟨gg, 8, none⟩ = some (.int .i64 tK) := (HLG.out.below HBW.out HLG.out.lt).cell 8
      have s9 : z6.cell? ⟨gg, 9, none⟩ = some (.int .i64 tO) := (HLG.out.below HBW.out HLG.out.lt).cell 9
      have s10 : z6.cell? ⟨gg, 10, none⟩ = some (.int .i64 tP) := (HLG.out.below HBW.out HLG.out.lt).cell 10
      have KO := Lib.hid (oneTask n tT tD tC tA tS 1001 tM tK tO tP 4 z6 (edge_g HFIT.out))
      go_wp2_with (fail)
      with_reducible refine KO.out.mono ?_
      rintro e z7 ⟨rfl, hb⟩
      have HBX := Lib.hid (HBW.out.trans (hb.mono HBW.out.size))
      clear hb KO HBW s0 s1 s2 s3 s4 s5 s6 s7 s8 s9 s10
      have HBW := HBX
      clear HBX
      have s0 : z7.cell? ⟨gh, 0, none⟩ = some (.string n) := (HLH.out.below HBW.out HLH.out.lt).cell 0
      have s1 : z7.cell? ⟨gh, 1, none⟩ = some (.int .i64 tT) := (HLH.out.below HBW.out HLH.out.lt).cell 1
      have s2 : z7.cell? ⟨gh, 2, none⟩ = some (.int .i64 tD) := (HLH.out.below HBW.out HLH.out.lt).cell 2
      have s3 : z7.cell? ⟨gh, 3, none⟩ = some (.int .i64 tC) := (HLH.out.below HBW.out HLH.out.lt).cell 3
      have s4 : z7.cell? ⟨gh, 4, none⟩ = some (.int .i64 tA) := (HLH.out.below HBW.out HLH.out.lt).cell 4
      have s5 : z7.cell? ⟨gh, 5, none⟩ = some (.int .i64 tS) := (HLH.out.below HBW.out HLH.out.lt).cell 5
      have s6 : z7.cell? ⟨gh, 6, none⟩ = some (.int .i64 tc) := (HLH.out.below HBW.out HLH.out.lt).cell 6
      have s7 : z7.cell? ⟨gh, 7, none⟩ = some (.int .i64 tM) := (HLH.out.below HBW.out HLH.out.lt).cell 7
      have s8 : z7.cell? ⟨gh, 8, none⟩ = some (.int .i64 tK) := (HLH.out.below HBW.out HLH.out.lt).cell 8
      have s9 : z7.cell? ⟨gh, 9, none⟩ = some (.int .i64 tO) := (HLH.out.below HBW.out HLH.out.lt).cell 9
      have s10 : z7.cell? ⟨gh, 10, none⟩ = some (.int .i64 255) := (HLH.out.below HBW.out HLH.out.lt).cell 10
      have KO := Lib.hid (oneTask n tT tD tC tA tS tc tM tK tO 255 0 z7 (edge_h HFIT.out))
      go_wp2_with (fail)
      with_reducible refine KO.out.mono ?_
      rintro e z8 ⟨rfl, hb⟩
      have HBX := Lib.hid (HBW.out.trans (hb.mono HBW.out.size))
      clear hb KO HBW s0 s1 s2 s3 s4 s5 s6 s7 s8 s9 s10
      have HBW := HBX
      clear HBX
      have s0 : z8.cell? ⟨gk, 0, none⟩ = some (.string n) := (HLK.out.below HBW.out HLK.out.lt).cell 0
      have s1 : z8.cell? ⟨gk, 1, none⟩ = some (.int .i64 tT) := (HLK.out.below HBW.out HLK.out.lt).cell 1
      have s2 : z8.cell? ⟨gk, 2, none⟩ = some (.int .i64 tD) := (HLK.out.below HBW.out HLK.out.lt).cell 2
      have s3 : z8.cell? ⟨gk, 3, none⟩ = some (.int .i64 tC) := (HLK.out.below HBW.out HLK.out.lt).cell 3
      have s4 : z8.cell? ⟨gk, 4, none⟩ = some (.int .i64 tA) := (HLK.out.below HBW.out HLK.out.lt).cell 4
      have s5 : z8.cell? ⟨gk, 5, none⟩ = some (.int .i64 tS) := (HLK.out.below HBW.out HLK.out.lt).cell 5
      have s6 : z8.cell? ⟨gk, 6, none⟩ = some (.int .i64 tc) := (HLK.out.below HBW.out HLK.out.lt).cell 6
      have s7 : z8.cell? ⟨gk, 7, none⟩ = some (.int .i64 tM) := (HLK.out.below HBW.out HLK.out.lt).cell 7
      have s8 : z8.cell? ⟨gk, 8, none⟩ = some (.int .i64 tK) := (HLK.out.below HBW.out HLK.out.lt).cell 8
      have s9 : z8.cell? ⟨gk, 9, none⟩ = some (.int .i64 tO) := (HLK.out.below HBW.out HLK.out.lt).cell 9
      have s10 : z8.cell? ⟨gk, 10, none⟩ = some (.int .i64 256) := (HLK.out.below HBW.out HLK.out.lt).cell 10
      have KO := Lib.hid (oneTask n tT tD tC tA tS tc tM tK tO 256 7 z8 (edge_k HFIT.out))
      go_wp2_with (fail)
      with_reducible refine KO.out.mono ?_
      rintro e z9 ⟨rfl, hb⟩
      have HBX := Lib.hid (HBW.out.trans (hb.mono HBW.out.size))
      clear hb KO HBW s0 s1 s2 s3 s4 s5 s6 s7 s8 s9 s10
      have HBW := HBX
      clear HBX
      go_wp2
      go_ret
      exact ⟨rfl, HB.out.trans (HBW.out.mono HB.out.size)⟩
end Go.Proofs.Ytkldpbehjbecnaa
