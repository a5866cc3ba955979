/- The walk of the statement on a task by itself. -/
import Derived.Test.YtkldpbehjbecnaaC2
import Derived.Test.YtkldpbehjbecnaaOn
import Derived.Test.YtkldpbehjbecnaaPe
import Derived.BigRegion
import Derived.RegionTactic
import Derived.Deep.DeepCutAuto
namespace Go.Proofs.Ytkldpbehjbecnaa
open Go.RowKit

set_option maxRecDepth 100000 in
set_option maxHeartbeats 8000000 in
theorem coreAlone (b : Int) (l : List Tk) (a : Option Addr) (cap : Nat) (nn : Nat) (hnn : nn ≤ 255) {w : World} (hm : l.length ≤ maxLen) (ht : Tasks w a cap l) :
    Calls Try.prog 7 #[.agg #[.int .i64 b, .slice a l.length cap], .int .u8 (nn : Int)] w (Woke w) := by
  have HT := Lib.hid ht
  have HM := Lib.hid hm
  have HB0 := Lib.hid (below_new w (.cells #[.int .i64 b, .slice a l.length cap] 24))
  have HX0 := Lib.hid (Lies.made w 24 #[.int .i64 b, .slice a l.length cap])
  clear ht hm
  go_enter Try.func7, Try.ntmps7
  go_wp2_with (fail)
  refine (awake _).mono ?_
  rintro e w1 ⟨rfl, hb1⟩
  have HB1 := Lib.hid (HB0.out.trans (hb1.mono HB0.out.size))
  have HX1 := Lib.hid (HX0.out.below hb1 HX0.out.lt)
  clear hb1
  have y0 : w1.cell? ⟨w.heap.size, 0, none⟩ = some (.int .i64 b) := HX1.out.cell 0
  have y1 : w1.cell? ⟨w.heap.size, 1, none⟩ = some (.slice a l.length cap) := HX1.out.cell 1
  have KF := Lib.hid (few b l a cap HM.out (HT.out.below (Nat.le_refl _) HB1.out))
  go_wp2_with (fail)
  with_reducible refine KF.out.mono ?_
  rintro e w2 ⟨fb, rfl, hb2, hf⟩
  have HB2 := Lib.hid (HB1.out.trans (hb2.mono HB1.out.size))
  have HX2 := Lib.hid (HX1.out.below hb2 HX1.out.lt)
  have HF := Lib.hid hf
  clear hb2 hf y0 y1 HB0 HX0 HB1 HX1 KF
  cases fb with
  | false =>
    go_wp2_with (fail)
    refine (awake _).mono ?_
    rintro e w3 ⟨rfl, hb3⟩
    have HB3 := Lib.hid (HB2.out.trans (hb3.mono HB2.out.size))
    clear hb3
    go_wp2
    go_ret
    exact ⟨rfl, HB3.out⟩
  | true =>
    have y0 : w2.cell? ⟨w.heap.size, 0, none⟩ = some (.int .i64 b) := HX2.out.cell 0
    have y1 : w2.cell? ⟨w.heap.size, 1, none⟩ = some (.slice a l.length cap) := HX2.out.cell 1
    cases hR : ((whyF b l).1 == 0) with
    | false =>
      have K1 := Lib.hid (refRight b l a cap HM.out (HT.out.below (Nat.le_refl _) HB2.out))
      rw [hR] at K1
      clear hR
      go_wp2_with (fail)
      with_reducible refine K1.out.mono ?_
      rintro e w3 ⟨rfl, hb3⟩
      have HB3 := Lib.hid (HB2.out.trans (hb3.mono HB2.out.size))
      clear hb3 y0 y1 K1 HB2 HX2
      go_wp2_with (fail)
      refine (awake _).mono ?_
      rintro e w4 ⟨rfl, hb4⟩
      have HB4 := Lib.hid (HB3.out.trans (hb4.mono HB3.out.size))
      clear hb4
      go_wp2
      go_ret
      exact ⟨rfl, HB4.out⟩
    | true =>
      have K1 := Lib.hid (refRight b l a cap HM.out (HT.out.below (Nat.le_refl _) HB2.out))
      rw [hR] at K1
      have HRT := Lib.hid (show (whyF b l).1 = 0 by simpa using hR)
      have hn : 1 ≤ l.length ∧ l.length ≤ 16 := ((right_iff b l).1 HRT.out).2.1
      obtain ⟨hn1, hn2⟩ := hn
      clear hR
      go_wp2_with (fail)
      with_reducible refine K1.out.mono ?_
      rintro e w3 ⟨rfl, hb3⟩
      have HB3 := Lib.hid (HB2.out.trans (hb3.mono HB2.out.size))
      have HX3 := Lib.hid (HX2.out.below hb3 HX2.out.lt)
      clear hb3 y0 y1 K1 HB2 HX2
      have hcap := HT.out.le
      have h0' : ¬ ((l.length : Int) = 0) := by omega
      obtain ⟨u, hu⟩ : ∃ u, u = nn % l.length := ⟨_, rfl⟩
      have hul : u < l.length := by rw [hu]; exact Nat.mod_lt _ (by omega)
      have HQ := Lib.hid (show (nn : Int) % (l.length : Int) = (u : Int) by rw [hu, Int.natCast_emod])
      have HU := Lib.hid hu
      clear hu
      have hq2 : (nn : Int) % (l.length : Int) = (u : Int) := HQ.out
      have hq3 : IntKind.i64.wrap (u : Int) = (u : Int) := by rw [IntWalk.i64_in _ ⟨by omega, by omega⟩]
      have hq4 : ¬ l.length = 0 := by omega
      have hq6 : nn % l.length = u := HU.out.symm
      have hq7 : u < l.length := hul
      have hq5 : ¬ l = [] := fun e => by rw [e] at hul; exact absurd hul (by simp)
      have q1 : (0 : Int) ≤ (u : Int) := by omega
      have q2 : (u : Int) < (l.length : Int) := by omega
      have hx := List.getElem?_eq_getElem hul
      have HXU := Lib.hid hx
      obtain ⟨bb, off, rfl, hbl, x0, x1, x2, x3, x4, x5, x6, x7, x8, x9, x10⟩ := (HT.out.below (Nat.le_refl _) HB3.out).cells hx
      clear hx
      generalize l[u] = t at x0 x1 x2 x3 x4 x5 x6 x7 x8 x9 x10 HXU
      obtain ⟨n, tT, tD, tC, tA, tS, tc, tM, tK, tO, tP⟩ := t
      simp only at x0 x1 x2 x3 x4 x5 x6 x7 x8 x9 x10
      have HFIT := Lib.hid (Fit.of HRT.out HXU.out)
      have y1 : w3.cell? ⟨w.heap.size, 1, none⟩ = some (.slice (some ⟨bb, off, none⟩) l.length cap) := HX3.out.cell 1
      have hwl : w.heap.size < w3.heap.size := HX3.out.lt
      go_wp2
      go_region
      have HLT : Hid (Lies ((w3.alloc (.cells #[.string n, .int .i64 tT, .int .i64 tD, .int .i64 tC, .int .i64 tA, .int .i64 tS, .int .i64 tc, .int .i64 tM, .int .i64 tK, .int .i64 tO, .int .i64 tP] 32)).drew) w3.heap.size 32 #[.string n, .int .i64 tT, .int .i64 tD, .int .i64 tC, .int .i64 tA, .int .i64 tS, .int .i64 tc, .int .i64 tM, .int .i64 tK, .int .i64 tO, .int .i64 tP]) := Lies.made w3 32 #[.string n, .int .i64 tT, .int .i64 tD, .int .i64 tC, .int .i64 tA, .int .i64 tS, .int .i64 tc, .int .i64 tM, .int .i64 tK, .int .i64 tO, .int .i64 tP]
      have HB : Hid (Below w.heap.size w ((w3.alloc (.cells #[.string n, .int .i64 tT, .int .i64 tD, .int .i64 tC, .int .i64 tA, .int .i64 tS, .int .i64 tc, .int .i64 tM, .int .i64 tK, .int .i64 tO, .int .i64 tP] 32)).drew)) := below_drewN (HB3.out.alloc HB3.out.size _) 1
      generalize (w3.alloc (.cells #[.string n, .int .i64 tT, .int .i64 tD, .int .i64 tC, .int .i64 tA, .int .i64 tS, .int .i64 tc, .int .i64 tM, .int .i64 tK, .int .i64 tO, .int .i64 tP] 32)).drew = V0 at HLT HB ⊢
      generalize w3.heap.size = gt at HLT ⊢
      clear x0 x1 x2 x3 x4 x5 x6 x7 x8 x9 x10 y1 hq2 hq3 hq4 hq5 hq6 hq7 hwl hbl HX3 HB3 HQ
      have b1 := HFIT.out.p1
      have b2 := HFIT.out.p2
      have s0 : V0.cell? ⟨gt, 0, none⟩ = some (.string n) := HLT.out.cell 0
      have s1 : V0.cell? ⟨gt, 1, none⟩ = some (.int .i64 tT) := HLT.out.cell 1
      have s2 : V0.cell? ⟨gt, 2, none⟩ = some (.int .i64 tD) := HLT.out.cell 2
      have s3 : V0.cell? ⟨gt, 3, none⟩ = some (.int .i64 tC) := HLT.out.cell 3
      have s4 : V0.cell? ⟨gt, 4, none⟩ = some (.int .i64 tA) := HLT.out.cell 4
      have s5 : V0.cell? ⟨gt, 5, none⟩ = some (.int .i64 tS) := HLT.out.cell 5
      have s6 : V0.cell? ⟨gt, 6, none⟩ = some (.int .i64 tc) := HLT.out.cell 6
      have s7 : V0.cell? ⟨gt, 7, none⟩ = some (.int .i64 tM) := HLT.out.cell 7
      have s8 : V0.cell? ⟨gt, 8, none⟩ = some (.int .i64 tK) := HLT.out.cell 8
      have s9 : V0.cell? ⟨gt, 9, none⟩ = some (.int .i64 tO) := HLT.out.cell 9
      have s10 : V0.cell? ⟨gt, 10, none⟩ = some (.int .i64 tP) := HLT.out.cell 10
      go_upto_region 6 with fail
      have HLT' := Lib.hid (HLT.out.alloc (.cells #[.string ⟨#[122, 122, 122]⟩, .int .i64 tT, .int .i64 tD, .int .i64 tC, .int .i64 tA, .int .i64 tS, .int .i64 tc, .int .i64 tM, .int .i64 tK, .int .i64 tO, .int .i64 tP] 32))
      have HLU := Lib.hid (Lies.made V0 32 #[.string ⟨#[122, 122, 122]⟩, .int .i64 tT, .int .i64 tD, .int .i64 tC, .int .i64 tA, .int .i64 tS, .int .i64 tc, .int .i64 tM, .int .i64 tK, .int .i64 tO, .int .i64 tP])
      have HB' := Lib.hid (HB.out.alloc HB.out.size (.cells #[.string ⟨#[122, 122, 122]⟩, .int .i64 tT, .int .i64 tD, .int .i64 tC, .int .i64 tA, .int .i64 tS, .int .i64 tc, .int .i64 tM, .int .i64 tK, .int .i64 tO, .int .i64 tP] 32))
      clear s0 s1 s2 s3 s4 s5 s6 s7 s8 s9 s10 HB HLT
      generalize V0.alloc (.cells #[.string ⟨#[122, 122, 122]⟩, .int .i64 tT, .int .i64 tD, .int .i64 tC, .int .i64 tA, .int .i64 tS, .int .i64 tc, .int .i64 tM, .int .i64 tK, .int .i64 tO, .int .i64 tP] 32) = V1 at HB' HLU HLT' ⊢
      generalize V0.heap.size = gu at HLU ⊢
      have HB := HB'
      clear HB'
      have HLT := HLT'
      clear HLT'
      obtain ⟨q, hq⟩ : ∃ q, q = (tP + 1) % 256 := ⟨_, rfl⟩
      have HQE := Lib.hid hq
      have c1 : 0 ≤ q := by omega
      have c2 : q ≤ 255 := by omega
      have c3 : q ≠ tP := by omega
      clear hq
      have w10 : V1.cell? ⟨gt, 10, none⟩ = some (.int .i64 tP) := HLT.out.cell 10
      have w11 : gt < V1.heap.size := HLT.out.lt
      have s0 : V1.cell? ⟨gu, 0, none⟩ = some (.string ⟨#[122, 122, 122]⟩) := HLU.out.cell 0
      have s1 : V1.cell? ⟨gu, 1, none⟩ = some (.int .i64 tT) := HLU.out.cell 1
      have s2 : V1.cell? ⟨gu, 2, none⟩ = some (.int .i64 tD) := HLU.out.cell 2
      have s3 : V1.cell? ⟨gu, 3, none⟩ = some (.int .i64 tC) := HLU.out.cell 3
      have s4 : V1.cell? ⟨gu, 4, none⟩ = some (.int .i64 tA) := HLU.out.cell 4
      have s5 : V1.cell? ⟨gu, 5, none⟩ = some (.int .i64 tS) := HLU.out.cell 5
      have s6 : V1.cell? ⟨gu, 6, none⟩ = some (.int .i64 tc) := HLU.out.cell 6
      have s7 : V1.cell? ⟨gu, 7, none⟩ = some (.int .i64 tM) := HLU.out.cell 7
      have s8 : V1.cell? ⟨gu, 8, none⟩ = some (.int .i64 tK) := HLU.out.cell 8
      have s9 : V1.cell? ⟨gu, 9, none⟩ = some (.int .i64 tO) := HLU.out.cell 9
      have s10 : V1.cell? ⟨gu, 10, none⟩ = some (.int .i64 tP) := HLU.out.cell 10
      go_upto_region 8 with fail
      rw [← HQE.out]
      clear w10 w11
      have HLT' := Lib.hid (HLT.out.alloc (.cells #[.string ⟨#[122, 122, 122]⟩, .int .i64 tT, .int .i64 tD, .int .i64 tC, .int .i64 tA, .int .i64 tS, .int .i64 tc, .int .i64 tM, .int .i64 tK, .int .i64 tO, .int .i64 q] 32))
      have HLU' := Lib.hid (HLU.out.alloc (.cells #[.string ⟨#[122, 122, 122]⟩, .int .i64 tT, .int .i64 tD, .int .i64 tC, .int .i64 tA, .int .i64 tS, .int .i64 tc, .int .i64 tM, .int .i64 tK, .int .i64 tO, .int .i64 q] 32))
      have HLV := Lib.hid (Lies.made V1 32 #[.string ⟨#[122, 122, 122]⟩, .int .i64 tT, .int .i64 tD, .int .i64 tC, .int .i64 tA, .int .i64 tS, .int .i64 tc, .int .i64 tM, .int .i64 tK, .int .i64 tO, .int .i64 q])
      have HB' := Lib.hid (HB.out.alloc HB.out.size (.cells #[.string ⟨#[122, 122, 122]⟩, .int .i64 tT, .int .i64 tD, .int .i64 tC, .int .i64 tA, .int .i64 tS, .int .i64 tc, .int .i64 tM, .int .i64 tK, .int .i64 tO, .int .i64 q] 32))
      clear s0 s1 s2 s3 s4 s5 s6 s7 s8 s9 s10 HB HLT HLU
      generalize V1.alloc (.cells #[.string ⟨#[122, 122, 122]⟩, .int .i64 tT, .int .i64 tD, .int .i64 tC, .int .i64 tA, .int .i64 tS, .int .i64 tc, .int .i64 tM, .int .i64 tK, .int .i64 tO, .int .i64 q] 32) = V2 at HB' HLV HLT' HLU' ⊢
      generalize V1.heap.size = gv at HLV ⊢
      have HB := HB'
      clear HB'
      have HLT := HLT'
      have HLU := HLU'
      clear HLT' HLU'
      by_cases hz : n = ⟨#[122, 122, 122]⟩
      · have HZ := Lib.hid hz
        have e3 : n.toList = [122, 122, 122] := by rw [hz, Lib.toList_data]
        have e4 : (n.toList == [122, 122, 122]) = true := by rw [e3]; rfl
        have e5 : (n.toList != [122, 122, 122]) = false := by rw [e3]; rfl
        clear e3
        clear hz
        have s0 : V2.cell? ⟨gt, 0, none⟩ = some (.string n) := HLT.out.cell 0
        have s1 : V2.cell? ⟨gt, 1, none⟩ = some (.int .i64 tT) := HLT.out.cell 1
        have s2 : V2.cell? ⟨gt, 2, none⟩ = some (.int .i64 tD) := HLT.out.cell 2
        have s3 : V2.cell? ⟨gt, 3, none⟩ = some (.int .i64 tC) := HLT.out.cell 3
        have s4 : V2.cell? ⟨gt, 4, none⟩ = some (.int .i64 tA) := HLT.out.cell 4
        have s5 : V2.cell? ⟨gt, 5, none⟩ = some (.int .i64 tS) := HLT.out.cell 5
        have s6 : V2.cell? ⟨gt, 6, none⟩ = some (.int .i64 tc) := HLT.out.cell 6
        have s7 : V2.cell? ⟨gt, 7, none⟩ = some (.int .i64 tM) := HLT.out.cell 7
        have s8 : V2.cell? ⟨gt, 8, none⟩ = some (.int .i64 tK) := HLT.out.cell 8
        have s9 : V2.cell? ⟨gt, 9, none⟩ = some (.int .i64 tO) := HLT.out.cell 9
        have s10 : V2.cell? ⟨gt, 10, none⟩ = some (.int .i64 tP) := HLT.out.cell 10
        have r0 : V2.cell? ⟨gu, 0, none⟩ = some (.string ⟨#[122, 122, 122]⟩) := HLU.out.cell 0
        have r1 : V2.cell? ⟨gu, 1, none⟩ = some (.int .i64 tT) := HLU.out.cell 1
        have r2 : V2.cell? ⟨gu, 2, none⟩ = some (.int .i64 tD) := HLU.out.cell 2
        have r3 : V2.cell? ⟨gu, 3, none⟩ = some (.int .i64 tC) := HLU.out.cell 3
        have r4 : V2.cell? ⟨gu, 4, none⟩ = some (.int .i64 tA) := HLU.out.cell 4
        have r5 : V2.cell? ⟨gu, 5, none⟩ = some (.int .i64 tS) := HLU.out.cell 5
        have r6 : V2.cell? ⟨gu, 6, none⟩ = some (.int .i64 tc) := HLU.out.cell 6
        have r7 : V2.cell? ⟨gu, 7, none⟩ = some (.int .i64 tM) := HLU.out.cell 7
        have r8 : V2.cell? ⟨gu, 8, none⟩ = some (.int .i64 tK) := HLU.out.cell 8
        have r9 : V2.cell? ⟨gu, 9, none⟩ = some (.int .i64 tO) := HLU.out.cell 9
        have r10 : V2.cell? ⟨gu, 10, none⟩ = some (.int .i64 tP) := HLU.out.cell 10
        have KA := Lib.hid (why2 5 V2.heap.size n tT tD tC tA tS tc tM tK tO tP ⟨#[122, 122, 122]⟩ tT tD tC tA tS tc tM tK tO tP (Lies.made V2 32 #[.string n, .int .i64 tT, .int .i64 tD, .int .i64 tC, .int .i64 tA, .int .i64 tS, .int .i64 tc, .int .i64 tM, .int .i64 tK, .int .i64 tO, .int .i64 tP, .string ⟨#[122, 122, 122]⟩, .int .i64 tT, .int .i64 tD, .int .i64 tC, .int .i64 tA, .int .i64 tS, .int .i64 tc, .int .i64 tM, .int .i64 tK, .int .i64 tO, .int .i64 tP]))
        rw [whyF_two (by omega) _ _ (edge_t HFIT.out), edge_same HZ.out] at KA
        have KA' : Hid (Calls Try.prog 11 #[.agg #[.int .i64 5, .slice (some ⟨V2.heap.size, 0, none⟩) 2 2]] (V2.alloc (.cells #[.string n, .int .i64 tT, .int .i64 tD, .int .i64 tC, .int .i64 tA, .int .i64 tS, .int .i64 tc, .int .i64 tM, .int .i64 tK, .int .i64 tO, .int .i64 tP, .string ⟨#[122, 122, 122]⟩, .int .i64 tT, .int .i64 tD, .int .i64 tC, .int .i64 tA, .int .i64 tS, .int .i64 tc, .int .i64 tM, .int .i64 tK, .int .i64 tO, .int .i64 tP] 32)) (Whys (3, 1) (V2.alloc (.cells #[.string n, .int .i64 tT, .int .i64 tD, .int .i64 tC, .int .i64 tA, .int .i64 tS, .int .i64 tc, .int .i64 tM, .int .i64 tK, .int .i64 tO, .int .i64 tP, .string ⟨#[122, 122, 122]⟩, .int .i64 tT, .int .i64 tD, .int .i64 tC, .int .i64 tA, .int .i64 tS, .int .i64 tc, .int .i64 tM, .int .i64 tK, .int .i64 tO, .int .i64 tP] 32)))) := KA.out
        go_wp2_with (fail)
        with_reducible refine KA'.out.mono ?_
        rintro e z1 ⟨rfl, hb⟩
        have HB1 := Lib.hid ((below_new V2 (.cells #[.string n, .int .i64 tT, .int .i64 tD, .int .i64 tC, .int .i64 tA, .int .i64 tS, .int .i64 tc, .int .i64 tM, .int .i64 tK, .int .i64 tO, .int .i64 tP, .string ⟨#[122, 122, 122]⟩, .int .i64 tT, .int .i64 tD, .int .i64 tC, .int .i64 tA, .int .i64 tS, .int .i64 tc, .int .i64 tM, .int .i64 tK, .int .i64 tO, .int .i64 tP] 32)).trans (hb.mono (below_new V2 (.cells #[.string n, .int .i64 tT, .int .i64 tD, .int .i64 tC, .int .i64 tA, .int .i64 tS, .int .i64 tc, .int .i64 tM, .int .i64 tK, .int .i64 tO, .int .i64 tP, .string ⟨#[122, 122, 122]⟩, .int .i64 tT, .int .i64 tD, .int .i64 tC, .int .i64 tA, .int .i64 tS, .int .i64 tc, .int .i64 tM, .int .i64 tK, .int .i64 tO, .int .i64 tP] 32)).size))
        clear hb KA KA'
        clear s0 s1 s2 s3 s4 s5 s6 s7 s8 s9 s10
        clear r0 r1 r2 r3 r4 r5 r6 r7 r8 r9 r10
        have HLT1 := Lib.hid (HLT.out.below HB1.out HLT.out.lt)
        have HLV1 := Lib.hid (HLV.out.below HB1.out HLV.out.lt)
        have s0 : z1.cell? ⟨gt, 0, none⟩ = some (.string n) := HLT1.out.cell 0
        have s1 : z1.cell? ⟨gt, 1, none⟩ = some (.int .i64 tT) := HLT1.out.cell 1
        have s2 : z1.cell? ⟨gt, 2, none⟩ = some (.int .i64 tD) := HLT1.out.cell 2
        have s3 : z1.cell? ⟨gt, 3, none⟩ = some (.int .i64 tC) := HLT1.out.cell 3
        have s4 : z1.cell? ⟨gt, 4, none⟩ = some (.int .i64 tA) := HLT1.out.cell 4
        have s5 : z1.cell? ⟨gt, 5, none⟩ = some (.int .i64 tS) := HLT1.out.cell 5
        have s6 : z1.cell? ⟨gt, 6, none⟩ = some (.int .i64 tc) := HLT1.out.cell 6
        have s7 : z1.cell? ⟨gt, 7, none⟩ = some (.int .i64 tM) := HLT1.out.cell 7
        have s8 : z1.cell? ⟨gt, 8, none⟩ = some (.int .i64 tK) := HLT1.out.cell 8
        have s9 : z1.cell? ⟨gt, 9, none⟩ = some (.int .i64 tO) := HLT1.out.cell 9
        have s10 : z1.cell? ⟨gt, 10, none⟩ = some (.int .i64 tP) := HLT1.out.cell 10
        have r0 : z1.cell? ⟨gv, 0, none⟩ = some (.string ⟨#[122, 122, 122]⟩) := HLV1.out.cell 0
        have r1 : z1.cell? ⟨gv, 1, none⟩ = some (.int .i64 tT) := HLV1.out.cell 1
        have r2 : z1.cell? ⟨gv, 2, none⟩ = some (.int .i64 tD) := HLV1.out.cell 2
        have r3 : z1.cell? ⟨gv, 3, none⟩ = some (.int .i64 tC) := HLV1.out.cell 3
        have r4 : z1.cell? ⟨gv, 4, none⟩ = some (.int .i64 tA) := HLV1.out.cell 4
        have r5 : z1.cell? ⟨gv, 5, none⟩ = some (.int .i64 tS) := HLV1.out.cell 5
        have r6 : z1.cell? ⟨gv, 6, none⟩ = some (.int .i64 tc) := HLV1.out.cell 6
        have r7 : z1.cell? ⟨gv, 7, none⟩ = some (.int .i64 tM) := HLV1.out.cell 7
        have r8 : z1.cell? ⟨gv, 8, none⟩ = some (.int .i64 tK) := HLV1.out.cell 8
        have r9 : z1.cell? ⟨gv, 9, none⟩ = some (.int .i64 tO) := HLV1.out.cell 9
        have r10 : z1.cell? ⟨gv, 10, none⟩ = some (.int .i64 q) := HLV1.out.cell 10
        have KA := Lib.hid (why2 5 z1.heap.size n tT tD tC tA tS tc tM tK tO tP ⟨#[122, 122, 122]⟩ tT tD tC tA tS tc tM tK tO q (Lies.made z1 32 #[.string n, .int .i64 tT, .int .i64 tD, .int .i64 tC, .int .i64 tA, .int .i64 tS, .int .i64 tc, .int .i64 tM, .int .i64 tK, .int .i64 tO, .int .i64 tP, .string ⟨#[122, 122, 122]⟩, .int .i64 tT, .int .i64 tD, .int .i64 tC, .int .i64 tA, .int .i64 tS, .int .i64 tc, .int .i64 tM, .int .i64 tK, .int .i64 tO, .int .i64 q]))
        rw [whyF_two (by omega) _ _ (edge_t HFIT.out), edge_same HZ.out] at KA
        have KA' : Hid (Calls Try.prog 11 #[.agg #[.int .i64 5, .slice (some ⟨z1.heap.size, 0, none⟩) 2 2]] (z1.alloc (.cells #[.string n, .int .i64 tT, .int .i64 tD, .int .i64 tC, .int .i64 tA, .int .i64 tS, .int .i64 tc, .int .i64 tM, .int .i64 tK, .int .i64 tO, .int .i64 tP, .string ⟨#[122, 122, 122]⟩, .int .i64 tT, .int .i64 tD, .int .i64 tC, .int .i64 tA, .int .i64 tS, .int .i64 tc, .int .i64 tM, .int .i64 tK, .int .i64 tO, .int .i64 q] 32)) (Whys (3, 1) (z1.alloc (.cells #[.string n, .int .i64 tT, .int .i64 tD, .int .i64 tC, .int .i64 tA, .int .i64 tS, .int .i64 tc, .int .i64 tM, .int .i64 tK, .int .i64 tO, .int .i64 tP, .string ⟨#[122, 122, 122]⟩, .int .i64 tT, .int .i64 tD, .int .i64 tC, .int .i64 tA, .int .i64 tS, .int .i64 tc, .int .i64 tM, .int .i64 tK, .int .i64 tO, .int .i64 q] 32)))) := KA.out
        go_wp2_with (fail)
        with_reducible refine KA'.out.mono ?_
        rintro e z2 ⟨rfl, hb⟩
        have HB2 := Lib.hid ((below_new z1 (.cells #[.string n, .int .i64 tT, .int .i64 tD, .int .i64 tC, .int .i64 tA, .int .i64 tS, .int .i64 tc, .int .i64 tM, .int .i64 tK, .int .i64 tO, .int .i64 tP, .string ⟨#[122, 122, 122]⟩, .int .i64 tT, .int .i64 tD, .int .i64 tC, .int .i64 tA, .int .i64 tS, .int .i64 tc, .int .i64 tM, .int .i64 tK, .int .i64 tO, .int .i64 q] 32)).trans (hb.mono (below_new z1 (.cells #[.string n, .int .i64 tT, .int .i64 tD, .int .i64 tC, .int .i64 tA, .int .i64 tS, .int .i64 tc, .int .i64 tM, .int .i64 tK, .int .i64 tO, .int .i64 tP, .string ⟨#[122, 122, 122]⟩, .int .i64 tT, .int .i64 tD, .int .i64 tC, .int .i64 tA, .int .i64 tS, .int .i64 tc, .int .i64 tM, .int .i64 tK, .int .i64 tO, .int .i64 q] 32)).size))
        clear hb KA KA'
        clear s0 s1 s2 s3 s4 s5 s6 s7 s8 s9 s10
        clear r0 r1 r2 r3 r4 r5 r6 r7 r8 r9 r10
        have HLT2 := Lib.hid (HLT1.out.below HB2.out HLT1.out.lt)
        have s0 : z2.cell? ⟨gt, 0, none⟩ = some (.string n) := HLT2.out.cell 0
        have s1 : z2.cell? ⟨gt, 1, none⟩ = some (.int .i64 tT) := HLT2.out.cell 1
        have s2 : z2.cell? ⟨gt, 2, none⟩ = some (.int .i64 tD) := HLT2.out.cell 2
        have s3 : z2.cell? ⟨gt, 3, none⟩ = some (.int .i64 tC) := HLT2.out.cell 3
        have s4 : z2.cell? ⟨gt, 4, none⟩ = some (.int .i64 tA) := HLT2.out.cell 4
        have s5 : z2.cell? ⟨gt, 5, none⟩ = some (.int .i64 tS) := HLT2.out.cell 5
        have s6 : z2.cell? ⟨gt, 6, none⟩ = some (.int .i64 tc) := HLT2.out.cell 6
        have s7 : z2.cell? ⟨gt, 7, none⟩ = some (.int .i64 tM) := HLT2.out.cell 7
        have s8 : z2.cell? ⟨gt, 8, none⟩ = some (.int .i64 tK) := HLT2.out.cell 8
        have s9 : z2.cell? ⟨gt, 9, none⟩ = some (.int .i64 tO) := HLT2.out.cell 9
        have s10 : z2.cell? ⟨gt, 10, none⟩ = some (.int .i64 tP) := HLT2.out.cell 10
        have KB := Lib.hid (right1 1000 z2.heap.size n tT tD tC tA tS tc tM tK tO tP (Lies.made z2 32 #[.string n, .int .i64 tT, .int .i64 tD, .int .i64 tC, .int .i64 tA, .int .i64 tS, .int .i64 tc, .int .i64 tM, .int .i64 tK, .int .i64 tO, .int .i64 tP]))
        rw [whyF_one (by omega), edge_t HFIT.out] at KB
        have KB' : Hid (Calls Try.prog 13 #[.agg #[.int .i64 1000, .slice (some ⟨z2.heap.size, 0, none⟩) 1 1]] (z2.alloc (.cells #[.string n, .int .i64 tT, .int .i64 tD, .int .i64 tC, .int .i64 tA, .int .i64 tS, .int .i64 tc, .int .i64 tM, .int .i64 tK, .int .i64 tO, .int .i64 tP] 32)) (Tells true (z2.alloc (.cells #[.string n, .int .i64 tT, .int .i64 tD, .int .i64 tC, .int .i64 tA, .int .i64 tS, .int .i64 tc, .int .i64 tM, .int .i64 tK, .int .i64 tO, .int .i64 tP] 32)))) := KB.out
        go_wp2_with (fail)
        with_reducible refine KB'.out.mono ?_
        rintro e z3 ⟨rfl, hb⟩
        have HB3 := Lib.hid ((below_new z2 (.cells #[.string n, .int .i64 tT, .int .i64 tD, .int .i64 tC, .int .i64 tA, .int .i64 tS, .int .i64 tc, .int .i64 tM, .int .i64 tK, .int .i64 tO, .int .i64 tP] 32)).trans (hb.mono (below_new z2 (.cells #[.string n, .int .i64 tT, .int .i64 tD, .int .i64 tC, .int .i64 tA, .int .i64 tS, .int .i64 tc, .int .i64 tM, .int .i64 tK, .int .i64 tO, .int .i64 tP] 32)).size))
        clear hb KB KB'
        clear s0 s1 s2 s3 s4 s5 s6 s7 s8 s9 s10
        have s0 : z3.cell? ⟨gt, 0, none⟩ = some (.string n) := (HLT2.out.below HB3.out HLT2.out.lt).cell 0
        go_wp2
        go_ret
        exact ⟨rfl, (((HB.out.trans (HB1.out.mono HB.out.size)).trans (HB2.out.mono (Nat.le_trans HB.out.size HB1.out.size))).trans (HB3.out.mono (Nat.le_trans (Nat.le_trans HB.out.size HB1.out.size) HB2.out.size)))⟩
      · have HZ := Lib.hid hz
        have e3 : ¬ n.toList = [122, 122, 122] := fun e => hz (toList_inj (by rw [e, Lib.toList_data]))
        have e4 : (n.toList == [122, 122, 122]) = false := by simpa using e3
        have e5 : (n.toList != [122, 122, 122]) = true := by simpa using e3
        clear hz
        have s0 : V2.cell? ⟨gt, 0, none⟩ = some (.string n) := HLT.out.cell 0
        have s1 : V2.cell? ⟨gt, 1, none⟩ = some (.int .i64 tT) := HLT.out.cell 1
        have s2 : V2.cell? ⟨gt, 2, none⟩ = some (.int .i64 tD) := HLT.out.cell 2
        have s3 : V2.cell? ⟨gt, 3, none⟩ = some (.int .i64 tC) := HLT.out.cell 3
        have s4 : V2.cell? ⟨gt, 4, none⟩ = some (.int .i64 tA) := HLT.out.cell 4
        have s5 : V2.cell? ⟨gt, 5, none⟩ = some (.int .i64 tS) := HLT.out.cell 5
        have s6 : V2.cell? ⟨gt, 6, none⟩ = some (.int .i64 tc) := HLT.out.cell 6
        have s7 : V2.cell? ⟨gt, 7, none⟩ = some (.int .i64 tM) := HLT.out.cell 7
        have s8 : V2.cell? ⟨gt, 8, none⟩ = some (.int .i64 tK) := HLT.out.cell 8
        have s9 : V2.cell? ⟨gt, 9, none⟩ = some (.int .i64 tO) := HLT.out.cell 9
        have s10 : V2.cell? ⟨gt, 10, none⟩ = some (.int .i64 tP) := HLT.out.cell 10
        have r0 : V2.cell? ⟨gu, 0, none⟩ = some (.string ⟨#[122, 122, 122]⟩) := HLU.out.cell 0
        have r1 : V2.cell? ⟨gu, 1, none⟩ = some (.int .i64 tT) := HLU.out.cell 1
        have r2 : V2.cell? ⟨gu, 2, none⟩ = some (.int .i64 tD) := HLU.out.cell 2
        have r3 : V2.cell? ⟨gu, 3, none⟩ = some (.int .i64 tC) := HLU.out.cell 3
        have r4 : V2.cell? ⟨gu, 4, none⟩ = some (.int .i64 tA) := HLU.out.cell 4
        have r5 : V2.cell? ⟨gu, 5, none⟩ = some (.int .i64 tS) := HLU.out.cell 5
        have r6 : V2.cell? ⟨gu, 6, none⟩ = some (.int .i64 tc) := HLU.out.cell 6
        have r7 : V2.cell? ⟨gu, 7, none⟩ = some (.int .i64 tM) := HLU.out.cell 7
        have r8 : V2.cell? ⟨gu, 8, none⟩ = some (.int .i64 tK) := HLU.out.cell 8
        have r9 : V2.cell? ⟨gu, 9, none⟩ = some (.int .i64 tO) := HLU.out.cell 9
        have r10 : V2.cell? ⟨gu, 10, none⟩ = some (.int .i64 tP) := HLU.out.cell 10
        have KA := Lib.hid (why2 5 V2.heap.size n tT tD tC tA tS tc tM tK tO tP ⟨#[122, 122, 122]⟩ tT tD tC tA tS tc tM tK tO tP (Lies.made V2 32 #[.string n, .int .i64 tT, .int .i64 tD, .int .i64 tC, .int .i64 tA, .int .i64 tS, .int .i64 tc, .int .i64 tM, .int .i64 tK, .int .i64 tO, .int .i64 tP, .string ⟨#[122, 122, 122]⟩, .int .i64 tT, .int .i64 tD, .int .i64 tC, .int .i64 tA, .int .i64 tS, .int .i64 tc, .int .i64 tM, .int .i64 tK, .int .i64 tO, .int .i64 tP]))
        rw [whyF_two (by omega) _ _ (edge_t HFIT.out), edge_u HFIT.out HZ.out] at KA
        have KA' : Hid (Calls Try.prog 11 #[.agg #[.int .i64 5, .slice (some ⟨V2.heap.size, 0, none⟩) 2 2]] (V2.alloc (.cells #[.string n, .int .i64 tT, .int .i64 tD, .int .i64 tC, .int .i64 tA, .int .i64 tS, .int .i64 tc, .int .i64 tM, .int .i64 tK, .int .i64 tO, .int .i64 tP, .string ⟨#[122, 122, 122]⟩, .int .i64 tT, .int .i64 tD, .int .i64 tC, .int .i64 tA, .int .i64 tS, .int .i64 tc, .int .i64 tM, .int .i64 tK, .int .i64 tO, .int .i64 tP] 32)) (Whys (7, 1) (V2.alloc (.cells #[.string n, .int .i64 tT, .int .i64 tD, .int .i64 tC, .int .i64 tA, .int .i64 tS, .int .i64 tc, .int .i64 tM, .int .i64 tK, .int .i64 tO, .int .i64 tP, .string ⟨#[122, 122, 122]⟩, .int .i64 tT, .int .i64 tD, .int .i64 tC, .int .i64 tA, .int .i64 tS, .int .i64 tc, .int .i64 tM, .int .i64 tK, .int .i64 tO, .int .i64 tP] 32)))) := KA.out
        go_wp2_with (fail)
        with_reducible refine KA'.out.mono ?_
        rintro e z1 ⟨rfl, hb⟩
        have HB1 := Lib.hid ((below_new V2 (.cells #[.string n, .int .i64 tT, .int .i64 tD, .int .i64 tC, .int .i64 tA, .int .i64 tS, .int .i64 tc, .int .i64 tM, .int .i64 tK, .int .i64 tO, .int .i64 tP, .string ⟨#[122, 122, 122]⟩, .int .i64 tT, .int .i64 tD, .int .i64 tC, .int .i64 tA, .int .i64 tS, .int .i64 tc, .int .i64 tM, .int .i64 tK, .int .i64 tO, .int .i64 tP] 32)).trans (hb.mono (below_new V2 (.cells #[.string n, .int .i64 tT, .int .i64 tD, .int .i64 tC, .int .i64 tA, .int .i64 tS, .int .i64 tc, .int .i64 tM, .int .i64 tK, .int .i64 tO, .int .i64 tP, .string ⟨#[122, 122, 122]⟩, .int .i64 tT, .int .i64 tD, .int .i64 tC, .int .i64 tA, .int .i64 tS, .int .i64 tc, .int .i64 tM, .int .i64 tK, .int .i64 tO, .int .i64 tP] 32)).size))
        clear hb KA KA'
        clear s0 s1 s2 s3 s4 s5 s6 s7 s8 s9 s10
        clear r0 r1 r2 r3 r4 r5 r6 r7 r8 r9 r10
        have HLT1 := Lib.hid (HLT.out.below HB1.out HLT.out.lt)
        have HLV1 := Lib.hid (HLV.out.below HB1.out HLV.out.lt)
        have s0 : z1.cell? ⟨gt, 0, none⟩ = some (.string n) := HLT1.out.cell 0
        have s1 : z1.cell? ⟨gt, 1, none⟩ = some (.int .i64 tT) := HLT1.out.cell 1
        have s2 : z1.cell? ⟨gt, 2, none⟩ = some (.int .i64 tD) := HLT1.out.cell 2
        have s3 : z1.cell? ⟨gt, 3, none⟩ = some (.int .i64 tC) := HLT1.out.cell 3
        have s4 : z1.cell? ⟨gt, 4, none⟩ = some (.int .i64 tA) := HLT1.out.cell 4
        have s5 : z1.cell? ⟨gt, 5, none⟩ = some (.int .i64 tS) := HLT1.out.cell 5
        have s6 : z1.cell? ⟨gt, 6, none⟩ = some (.int .i64 tc) := HLT1.out.cell 6
        have s7 : z1.cell? ⟨gt, 7, none⟩ = some (.int .i64 tM) := HLT1.out.cell 7
        have s8 : z1.cell? ⟨gt, 8, none⟩ = some (.int .i64 tK) := HLT1.out.cell 8
        have s9 : z1.cell? ⟨gt, 9, none⟩ = some (.int .i64 tO) := HLT1.out.cell 9
        have s10 : z1.cell? ⟨gt, 10, none⟩ = some (.int .i64 tP) := HLT1.out.cell 10
        have r0 : z1.cell? ⟨gv, 0, none⟩ = some (.string ⟨#[122, 122, 122]⟩) := HLV1.out.cell 0
        have r1 : z1.cell? ⟨gv, 1, none⟩ = some (.int .i64 tT) := HLV1.out.cell 1
        have r2 : z1.cell? ⟨gv, 2, none⟩ = some (.int .i64 tD) := HLV1.out.cell 2
        have r3 : z1.cell? ⟨gv, 3, none⟩ = some (.int .i64 tC) := HLV1.out.cell 3
        have r4 : z1.cell? ⟨gv, 4, none⟩ = some (.int .i64 tA) := HLV1.out.cell 4
        have r5 : z1.cell? ⟨gv, 5, none⟩ = some (.int .i64 tS) := HLV1.out.cell 5
        have r6 : z1.cell? ⟨gv, 6, none⟩ = some (.int .i64 tc) := HLV1.out.cell 6
        have r7 : z1.cell? ⟨gv, 7, none⟩ = some (.int .i64 tM) := HLV1.out.cell 7
        have r8 : z1.cell? ⟨gv, 8, none⟩ = some (.int .i64 tK) := HLV1.out.cell 8
        have r9 : z1.cell? ⟨gv, 9, none⟩ = some (.int .i64 tO) := HLV1.out.cell 9
        have r10 : z1.cell? ⟨gv, 10, none⟩ = some (.int .i64 q) := HLV1.out.cell 10
        have KA := Lib.hid (why2 5 z1.heap.size n tT tD tC tA tS tc tM tK tO tP ⟨#[122, 122, 122]⟩ tT tD tC tA tS tc tM tK tO q (Lies.made z1 32 #[.string n, .int .i64 tT, .int .i64 tD, .int .i64 tC, .int .i64 tA, .int .i64 tS, .int .i64 tc, .int .i64 tM, .int .i64 tK, .int .i64 tO, .int .i64 tP, .string ⟨#[122, 122, 122]⟩, .int .i64 tT, .int .i64 tD, .int .i64 tC, .int .i64 tA, .int .i64 tS, .int .i64 tc, .int .i64 tM, .int .i64 tK, .int .i64 tO, .int .i64 q]))
        rw [whyF_two (by omega) _ _ (edge_t HFIT.out), edge_v HFIT.out HZ.out c1 c2 c3] at KA
        have KA' : Hid (Calls Try.prog 11 #[.agg #[.int .i64 5, .slice (some ⟨z1.heap.size, 0, none⟩) 2 2]] (z1.alloc (.cells #[.string n, .int .i64 tT, .int .i64 tD, .int .i64 tC, .int .i64 tA, .int .i64 tS, .int .i64 tc, .int .i64 tM, .int .i64 tK, .int .i64 tO, .int .i64 tP, .string ⟨#[122, 122, 122]⟩, .int .i64 tT, .int .i64 tD, .int .i64 tC, .int .i64 tA, .int .i64 tS, .int .i64 tc, .int .i64 tM, .int .i64 tK, .int .i64 tO, .int .i64 q] 32)) (Whys (0, -1) (z1.alloc (.cells #[.string n, .int .i64 tT, .int .i64 tD, .int .i64 tC, .int .i64 tA, .int .i64 tS, .int .i64 tc, .int .i64 tM, .int .i64 tK, .int .i64 tO, .int .i64 tP, .string ⟨#[122, 122, 122]⟩, .int .i64 tT, .int .i64 tD, .int .i64 tC, .int .i64 tA, .int .i64 tS, .int .i64 tc, .int .i64 tM, .int .i64 tK, .int .i64 tO, .int .i64 q] 32)))) := KA.out
        go_wp2_with (fail)
        with_reducible refine KA'.out.mono ?_
        rintro e z2 ⟨rfl, hb⟩
        have HB2 := Lib.hid ((below_new z1 (.cells #[.string n, .int .i64 tT, .int .i64 tD, .int .i64 tC, .int .i64 tA, .int .i64 tS, .int .i64 tc, .int .i64 tM, .int .i64 tK, .int .i64 tO, .int .i64 tP, .string ⟨#[122, 122, 122]⟩, .int .i64 tT, .int .i64 tD, .int .i64 tC, .int .i64 tA, .int .i64 tS, .int .i64 tc, .int .i64 tM, .int .i64 tK, .int .i64 tO, .int .i64 q] 32)).trans (hb.mono (below_new z1 (.cells #[.string n, .int .i64 tT, .int .i64 tD, .int .i64 tC, .int .i64 tA, .int .i64 tS, .int .i64 tc, .int .i64 tM, .int .i64 tK, .int .i64 tO, .int .i64 tP, .string ⟨#[122, 122, 122]⟩, .int .i64 tT, .int .i64 tD, .int .i64 tC, .int .i64 tA, .int .i64 tS, .int .i64 tc, .int .i64 tM, .int .i64 tK, .int .i64 tO, .int .i64 q] 32)).size))
        clear hb KA KA'
        clear s0 s1 s2 s3 s4 s5 s6 s7 s8 s9 s10
        clear r0 r1 r2 r3 r4 r5 r6 r7 r8 r9 r10
        have HLT2 := Lib.hid (HLT1.out.below HB2.out HLT1.out.lt)
        have s0 : z2.cell? ⟨gt, 0, none⟩ = some (.string n) := HLT2.out.cell 0
        have s1 : z2.cell? ⟨gt, 1, none⟩ = some (.int .i64 tT) := HLT2.out.cell 1
        have s2 : z2.cell? ⟨gt, 2, none⟩ = some (.int .i64 tD) := HLT2.out.cell 2
        have s3 : z2.cell? ⟨gt, 3, none⟩ = some (.int .i64 tC) := HLT2.out.cell 3
        have s4 : z2.cell? ⟨gt, 4, none⟩ = some (.int .i64 tA) := HLT2.out.cell 4
        have s5 : z2.cell? ⟨gt, 5, none⟩ = some (.int .i64 tS) := HLT2.out.cell 5
        have s6 : z2.cell? ⟨gt, 6, none⟩ = some (.int .i64 tc) := HLT2.out.cell 6
        have s7 : z2.cell? ⟨gt, 7, none⟩ = some (.int .i64 tM) := HLT2.out.cell 7
        have s8 : z2.cell? ⟨gt, 8, none⟩ = some (.int .i64 tK) := HLT2.out.cell 8
        have s9 : z2.cell? ⟨gt, 9, none⟩ = some (.int .i64 tO) := HLT2.out.cell 9
        have s10 : z2.cell? ⟨gt, 10, none⟩ = some (.int .i64 tP) := HLT2.out.cell 10
        have KB := Lib.hid (right1 1000 z2.heap.size n tT tD tC tA tS tc tM tK tO tP (Lies.made z2 32 #[.string n, .int .i64 tT, .int .i64 tD, .int .i64 tC, .int .i64 tA, .int .i64 tS, .int .i64 tc, .int .i64 tM, .int .i64 tK, .int .i64 tO, .int .i64 tP]))
        rw [whyF_one (by omega), edge_t HFIT.out] at KB
        have KB' : Hid (Calls Try.prog 13 #[.agg #[.int .i64 1000, .slice (some ⟨z2.heap.size, 0, none⟩) 1 1]] (z2.alloc (.cells #[.string n, .int .i64 tT, .int .i64 tD, .int .i64 tC, .int .i64 tA, .int .i64 tS, .int .i64 tc, .int .i64 tM, .int .i64 tK, .int .i64 tO, .int .i64 tP] 32)) (Tells true (z2.alloc (.cells #[.string n, .int .i64 tT, .int .i64 tD, .int .i64 tC, .int .i64 tA, .int .i64 tS, .int .i64 tc, .int .i64 tM, .int .i64 tK, .int .i64 tO, .int .i64 tP] 32)))) := KB.out
        go_wp2_with (fail)
        with_reducible refine KB'.out.mono ?_
        rintro e z3 ⟨rfl, hb⟩
        have HB3 := Lib.hid ((below_new z2 (.cells #[.string n, .int .i64 tT, .int .i64 tD, .int .i64 tC, .int .i64 tA, .int .i64 tS, .int .i64 tc, .int .i64 tM, .int .i64 tK, .int .i64 tO, .int .i64 tP] 32)).trans (hb.mono (below_new z2 (.cells #[.string n, .int .i64 tT, .int .i64 tD, .int .i64 tC, .int .i64 tA, .int .i64 tS, .int .i64 tc, .int .i64 tM, .int .i64 tK, .int .i64 tO, .int .i64 tP] 32)).size))
        clear hb KB KB'
        clear s0 s1 s2 s3 s4 s5 s6 s7 s8 s9 s10
        have s0 : z3.cell? ⟨gt, 0, none⟩ = some (.string n) := (HLT2.out.below HB3.out HLT2.out.lt).cell 0
        go_wp2
        go_ret
        exact ⟨rfl, (((HB.out.trans (HB1.out.mono HB.out.size)).trans (HB2.out.mono (Nat.le_trans HB.out.size HB1.out.size))).trans (HB3.out.mono (Nat.le_trans (Nat.le_trans HB.out.size HB1.out.size) HB2.out.size)))⟩
end Go.Proofs.Ytkldpbehjbecnaa
