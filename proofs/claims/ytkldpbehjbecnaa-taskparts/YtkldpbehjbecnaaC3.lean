/- The walk of the statement on a right set's beginnings. -/
import Derived.Test.YtkldpbehjbecnaaC2
import Derived.Test.YtkldpbehjbecnaaPu
import Derived.Test.YtkldpbehjbecnaaGr
import Derived.Deep.DeepCutAuto
namespace Go.Proofs.Ytkldpbehjbecnaa
open Go.RowKit

set_option maxRecDepth 100000 in
set_option maxHeartbeats 8000000 in
theorem coreParts (b : Int) (l : List Tk) (a : Option Addr) (cap : Nat) (nn : Nat) (hnn : nn ≤ 255) {w : World} (hm : l.length ≤ maxLen) (ht : Tasks w a cap l) :
    Calls Try.prog 5 #[.agg #[.int .i64 b, .slice a l.length cap], .int .u8 (nn : Int)] w (Woke w) := by
  have HT := Lib.hid ht
  have HM := Lib.hid hm
  have HB0 := Lib.hid (below_new w (.cells #[.int .i64 b, .slice a l.length cap] 24))
  have HX0 := Lib.hid (Lies.made w 24 #[.int .i64 b, .slice a l.length cap])
  clear ht hm
  go_enter Try.func5, Try.ntmps5
  go_wp2_with (fail)
  refine (awake _).mono ?_
  rintro e w1 ⟨rfl, hb1⟩
  have HB1 := Lib.hid (HB0.out.trans (hb1.mono HB0.out.size))
  have HX1 := Lib.hid (HX0.out.below hb1 HX0.out.lt)
  clear hb1
  have y0 : w1.cell? ⟨w.heap.size, 0, none⟩ = some (.int .i64 b) := HX1.out.cell 0
  have y1 : w1.cell? ⟨w.heap.size, 1, none⟩ = some (.slice a l.length cap) := HX1.out.cell 1
  have KF := Lib.hid (few b l a cap HM.out (HT.out.below (Nat.le_refl _) HB1.out))
  go_wp2_with (fail)
  with_reducible refine KF.out.mono ?_
  rintro e w2 ⟨fb, rfl, hb2, hf⟩
  have HB2 := Lib.hid (HB1.out.trans (hb2.mono HB1.out.size))
  have HX2 := Lib.hid (HX1.out.below hb2 HX1.out.lt)
  have HF := Lib.hid hf
  clear hb2 hf y0 y1 HB0 HX0 HB1 HX1 KF
  cases fb with
  | false =>
    go_wp2_with (fail)
    refine (awake _).mono ?_
    rintro e w3 ⟨rfl, hb3⟩
    have HB3 := Lib.hid (HB2.out.trans (hb3.mono HB2.out.size))
    clear hb3
    go_wp2
    go_ret
    exact ⟨rfl, HB3.out⟩
  | true =>
    have y0 : w2.cell? ⟨w.heap.size, 0, none⟩ = some (.int .i64 b) := HX2.out.cell 0
    have y1 : w2.cell? ⟨w.heap.size, 1, none⟩ = some (.slice a l.length cap) := HX2.out.cell 1
    cases hR : ((whyF b l).1 == 0) with
    | false =>
      have K1 := Lib.hid (right b l a cap HM.out (HT.out.below (Nat.le_refl _) HB2.out))
      rw [hR] at K1
      clear hR
      go_wp2_with (fail)
      with_reducible refine K1.out.mono ?_
      rintro e w3 ⟨rfl, hb3⟩
      have HB3 := Lib.hid (HB2.out.trans (hb3.mono HB2.out.size))
      clear hb3 y0 y1 K1 HB2 HX2
      go_wp2_with (fail)
      refine (awake _).mono ?_
      rintro e w4 ⟨rfl, hb4⟩
      have HB4 := Lib.hid (HB3.out.trans (hb4.mono HB3.out.size))
      clear hb4
      go_wp2
      go_ret
      exact ⟨rfl, HB4.out⟩
    | true =>
      have K1 := Lib.hid (right b l a cap HM.out (HT.out.below (Nat.le_refl _) HB2.out))
      rw [hR] at K1
      have HRT := Lib.hid (show (whyF b l).1 = 0 by simpa using hR)
      have hn : 1 ≤ l.length ∧ l.length ≤ 16 := ((right_iff b l).1 HRT.out).2.1
      obtain ⟨hn1, hn2⟩ := hn
      clear hR
      go_wp2_with (fail)
      with_reducible refine K1.out.mono ?_
      rintro e w3 ⟨rfl, hb3⟩
      have HB3 := Lib.hid (HB2.out.trans (hb3.mono HB2.out.size))
      have HX3 := Lib.hid (HX2.out.below hb3 HX2.out.lt)
      clear hb3 y0 y1 K1 HB2 HX2
      have hcap := HT.out.le
      have h0' : ¬ ((l.length : Int) = 0) := by omega
      obtain ⟨u, hu⟩ : ∃ u, u = nn % l.length := ⟨_, rfl⟩
      have hul : u < l.length := by rw [hu]; exact Nat.mod_lt _ (by omega)
      have HQ := Lib.hid (show (nn : Int) % (l.length : Int) = (u : Int) by rw [hu, Int.natCast_emod])
      have HU := Lib.hid hu
      clear hu
      have y0 : w3.cell? ⟨w.heap.size, 0, none⟩ = some (.int .i64 b) := HX3.out.cell 0
      have y1 : w3.cell? ⟨w.heap.size, 1, none⟩ = some (.slice a l.length cap) := HX3.out.cell 1
      obtain ⟨k, hk⟩ : ∃ k, k = 1 + u := ⟨_, rfl⟩
      have hk1 : 1 ≤ k := by omega
      have hkl : k ≤ l.length := by omega
      have q1 : (0 : Int) ≤ (k : Int) := by omega
      have q2 : (k : Int) ≤ (cap : Int) := by omega
      have HKE := Lib.hid (show wrap64 (1 + (nn : Int) % (l.length : Int)) = (k : Int) by rw [HQ.out, IntWalk.wrap64_in _ ⟨by omega, by omega⟩]; omega)
      have HKU := Lib.hid hk
      clear hk
      go_wp2
      rw [HKE.out, HQ.out]
      go_region_held3 (fun w' => w'.cell? ⟨w.heap.size, 0, none⟩ = some (.int .i64 b) ∧ w'.cell? ⟨w.heap.size, 1, none⟩ = some (.slice a l.length cap)) (go_keep) (first | fail)
      go_upto_region 5 with fail
      have HPX : Hid (Lies ((w3.alloc (.cells #[.int .i64 b, .slice a k cap] 24)).drew) w3.heap.size 24 #[.int .i64 b, .slice a k cap]) := Lies.made w3 24 #[.int .i64 b, .slice a k cap]
      have HXX : Hid (Lies ((w3.alloc (.cells #[.int .i64 b, .slice a k cap] 24)).drew) w.heap.size 24 #[.int .i64 b, .slice a l.length cap]) := HX3.out.alloc _
      have HBX : Hid (Below w.heap.size w ((w3.alloc (.cells #[.int .i64 b, .slice a k cap] 24)).drew)) := below_drewN (HB3.out.alloc HB3.out.size _) 1
      generalize (w3.alloc (.cells #[.int .i64 b, .slice a k cap] 24)).drew = X at HPX HXX HBX ⊢
      generalize w3.heap.size = gp at HPX ⊢
      clear y0 y1 HB3 HX3 HKE HQ
      have HTX := Lib.hid (HT.out.below (Nat.le_refl _) HBX.out)
      have hx := List.getElem?_eq_getElem hul
      have HXU := Lib.hid hx
      obtain ⟨bb, off, rfl, hbl, x0, x1, x2, x3, x4, x5, x6, x7, x8, x9, x10⟩ := HTX.out.cells hx
      clear hx
      generalize l[u] = t at x0 x1 x2 x3 x4 x5 x6 x7 x8 x9 x10 HXU
      obtain ⟨n, tT, tD, tC, tA, tS, tc, tM, tK, tO, tP⟩ := t
      simp only at x0 x1 x2 x3 x4 x5 x6 x7 x8 x9 x10
      have HTK := Lib.hid (HTX.out.take k)
      have HLK := Lib.hid (show (l.take k).length = k by rw [List.length_take]; omega)
      have y0 : X.cell? ⟨w.heap.size, 0, none⟩ = some (.int .i64 b) := HXX.out.cell 0
      have y1 : X.cell? ⟨w.heap.size, 1, none⟩ = some (.slice (some ⟨bb, off, none⟩) l.length cap) := HXX.out.cell 1
      have hwl : w.heap.size < X.heap.size := HXX.out.lt
      have hw : IntKind.i64.wrap ((k : Int) - 1) = (u : Int) := by rw [IntWalk.i64_in _ ⟨by omega, by omega⟩]; have := HKU.out; omega
      have q3 : (0 : Int) ≤ (u : Int) := by omega
      have q4 : (u : Int) < (l.length : Int) := by omega
      have KP : Hid (∀ w', Below X.heap.size X w' → w'.cell? ⟨w.heap.size, 0, none⟩ = some (.int .i64 b) ∧ w'.cell? ⟨w.heap.size, 1, none⟩ = some (.slice (some ⟨bb, off, none⟩) l.length cap) ∧ w'.cell? ⟨bb, off + u * 11, none⟩ = some (.string n) ∧ w'.cell? ⟨bb, off + u * 11 + 1, none⟩ = some (.int .i64 tT) ∧ w'.cell? ⟨bb, off + u * 11 + 2, none⟩ = some (.int .i64 tD) ∧ w'.cell? ⟨bb, off + u * 11 + 3, none⟩ = some (.int .i64 tC) ∧ w'.cell? ⟨bb, off + u * 11 + 4, none⟩ = some (.int .i64 tA) ∧ w'.cell? ⟨bb, off + u * 11 + 5, none⟩ = some (.int .i64 tS) ∧ w'.cell? ⟨bb, off + u * 11 + 6, none⟩ = some (.int .i64 tc) ∧ w'.cell? ⟨bb, off + u * 11 + 7, none⟩ = some (.int .i64 tM) ∧ w'.cell? ⟨bb, off + u * 11 + 8, none⟩ = some (.int .i64 tK) ∧ w'.cell? ⟨bb, off + u * 11 + 9, none⟩ = some (.int .i64 tO) ∧ w'.cell? ⟨bb, off + u * 11 + 10, none⟩ = some (.int .i64 tP)) := fun w' hw' => by
        have h : ∀ c, c < X.heap.size → ∀ k, w'.cell? ⟨c, k, none⟩ = X.cell? ⟨c, k, none⟩ := fun c hc k => hw'.cell (p := ⟨c, k, none⟩) hc
        exact ⟨(h _ hwl _).trans y0, (h _ hwl _).trans y1, (h _ hbl _).trans x0, (h _ hbl _).trans x1, (h _ hbl _).trans x2, (h _ hbl _).trans x3, (h _ hbl _).trans x4, (h _ hbl _).trans x5, (h _ hbl _).trans x6, (h _ hbl _).trans x7, (h _ hbl _).trans x8, (h _ hbl _).trans x9, (h _ hbl _).trans x10⟩
      go_cut [7] (fun s7 wx => SetT X b (k + 1) (l.take k ++ [⟨n, tT, tD, tC, tA, tS, tc, tM, tK, tO, tP⟩]) s7 wx)
      case first =>
        go_region_held3 (fun w' => w'.cell? ⟨w.heap.size, 0, none⟩ = some (.int .i64 b) ∧ w'.cell? ⟨w.heap.size, 1, none⟩ = some (.slice (some ⟨bb, off, none⟩) l.length cap) ∧ w'.cell? ⟨bb, off + u * 11, none⟩ = some (.string n) ∧ w'.cell? ⟨bb, off + u * 11 + 1, none⟩ = some (.int .i64 tT) ∧ w'.cell? ⟨bb, off + u * 11 + 2, none⟩ = some (.int .i64 tD) ∧ w'.cell? ⟨bb, off + u * 11 + 3, none⟩ = some (.int .i64 tC) ∧ w'.cell? ⟨bb, off + u * 11 + 4, none⟩ = some (.int .i64 tA) ∧ w'.cell? ⟨bb, off + u * 11 + 5, none⟩ = some (.int .i64 tS) ∧ w'.cell? ⟨bb, off + u * 11 + 6, none⟩ = some (.int .i64 tc) ∧ w'.cell? ⟨bb, off + u * 11 + 7, none⟩ = some (.int .i64 tM) ∧ w'.cell? ⟨bb, off + u * 11 + 8, none⟩ = some (.int .i64 tK) ∧ w'.cell? ⟨bb, off + u * 11 + 9, none⟩ = some (.int .i64 tO) ∧ w'.cell? ⟨bb, off + u * 11 + 10, none⟩ = some (.int .i64 tP)) (first | (with_reducible exact KP.out _ (below_d1 _ _)) | (with_reducible exact KP.out _ (below_d2 _ _ _)) | (with_reducible exact KP.out _ (below_d3 _ _ _ _)) | (with_reducible exact KP.out _ (hp2.bel)) | (with_reducible exact KP.out _ ((hp2.grows.alloc _).bel)) | (with_reducible exact KP.out _ (((hp2.grows.alloc _).alloc _).bel)) | (with_reducible exact KP.out _ (hp3.bel)) | (with_reducible exact KP.out _ ((hp3.grows.alloc _).bel)) | (with_reducible exact KP.out _ (hp3.early_below HD.out _ _)) | go_keep) (first | (refine step_append_old (by rfl) (.tmp 39) (.tmp 43) (by rfl) X _ 0 k cap 0 k [] (l.take k) (some ⟨bb, off, none⟩) (by rfl) (by rfl) (by first | (with_reducible exact GrowsT.drew (grows_n0 _)) | (with_reducible exact GrowsT.drew ((grows_n0 _).alloc _)) | (with_reducible exact GrowsT.drew (((grows_n0 _).alloc _).alloc _)) | (with_reducible exact GrowsT.drew (grows_n1 _ _)) | (with_reducible exact GrowsT.drew ((grows_n1 _ _).alloc _)) | (with_reducible exact GrowsT.drew (grows_n2 _ _ _))) HLK.out HTK.out (by omega) (by omega) ?_; intro A2 c2 w4 hp2) | (refine step_append_tasks (by rfl) (.tmp 44) (.tmp 51) (by rfl) X A2 k 1 1 c2 (k + 1) ([] ++ l.take k) [⟨n, tT, tD, tC, tA, tS, tc, tM, tK, tO, tP⟩] _ (by rfl) (by rfl) (by first | (with_reducible exact hp2.grows) | (with_reducible exact hp2.grows.alloc _) | (with_reducible exact (hp2.grows.alloc _).alloc _)) rfl (by first | (with_reducible exact tasks_11 n tT tD tC tA tS tc tM tK tO tP (lies_m0 _ 32 #[.string n, .int .i64 tT, .int .i64 tD, .int .i64 tC, .int .i64 tA, .int .i64 tS, .int .i64 tc, .int .i64 tM, .int .i64 tK, .int .i64 tO, .int .i64 tP])) | (with_reducible exact tasks_11 n tT tD tC tA tS tc tM tK tO tP ((lies_m0 _ 32 #[.string n, .int .i64 tT, .int .i64 tD, .int .i64 tC, .int .i64 tA, .int .i64 tS, .int .i64 tc, .int .i64 tM, .int .i64 tK, .int .i64 tO, .int .i64 tP]).alloc _)) | (with_reducible exact tasks_11 n tT tD tC tA tS tc tM tK tO tP (lies_m1 _ _ 32 #[.string n, .int .i64 tT, .int .i64 tD, .int .i64 tC, .int .i64 tA, .int .i64 tS, .int .i64 tc, .int .i64 tM, .int .i64 tK, .int .i64 tO, .int .i64 tP])) | ((with_reducible refine tasks_11 n tT tD tC tA tS tc tM tK tO tP (hp2.keep _ _ _ (Lies.drew (lies_m0 _ 32 #[.string n, .int .i64 tT, .int .i64 tD, .int .i64 tC, .int .i64 tA, .int .i64 tS, .int .i64 tc, .int .i64 tM, .int .i64 tK, .int .i64 tO, .int .i64 tP])) ?_)); exact block_ne (by omega)) | ((with_reducible refine tasks_11 n tT tD tC tA tS tc tM tK tO tP (hp2.keep _ _ _ (Lies.drew ((lies_m0 _ 32 #[.string n, .int .i64 tT, .int .i64 tD, .int .i64 tC, .int .i64 tA, .int .i64 tS, .int .i64 tc, .int .i64 tM, .int .i64 tK, .int .i64 tO, .int .i64 tP]).alloc _)) ?_)); exact block_ne (by omega)) | ((with_reducible refine tasks_11 n tT tD tC tA tS tc tM tK tO tP (hp2.keep _ _ _ (Lies.drew (((lies_m0 _ 32 #[.string n, .int .i64 tT, .int .i64 tD, .int .i64 tC, .int .i64 tA, .int .i64 tS, .int .i64 tc, .int .i64 tM, .int .i64 tK, .int .i64 tO, .int .i64 tP]).alloc _).alloc _)) ?_)); exact block_ne (by omega)) | ((with_reducible refine tasks_11 n tT tD tC tA tS tc tM tK tO tP (hp2.keep _ _ _ (Lies.drew (lies_m1 _ _ 32 #[.string n, .int .i64 tT, .int .i64 tD, .int .i64 tC, .int .i64 tA, .int .i64 tS, .int .i64 tc, .int .i64 tM, .int .i64 tK, .int .i64 tO, .int .i64 tP])) ?_)); exact block_ne (by omega)) | ((with_reducible refine tasks_11 n tT tD tC tA tS tc tM tK tO tP (hp2.keep _ _ _ (Lies.drew ((lies_m1 _ _ 32 #[.string n, .int .i64 tT, .int .i64 tD, .int .i64 tC, .int .i64 tA, .int .i64 tS, .int .i64 tc, .int .i64 tM, .int .i64 tK, .int .i64 tO, .int .i64 tP]).alloc _)) ?_)); exact block_ne (by omega)) | ((with_reducible refine tasks_11 n tT tD tC tA tS tc tM tK tO tP (hp2.keep _ _ _ (Lies.drew (lies_m2 _ _ _ 32 #[.string n, .int .i64 tT, .int .i64 tD, .int .i64 tC, .int .i64 tA, .int .i64 tS, .int .i64 tc, .int .i64 tM, .int .i64 tK, .int .i64 tO, .int .i64 tP])) ?_)); exact block_ne (by omega)) | ((with_reducible refine tasks_11 n tT tD tC tA tS tc tM tK tO tP ((hp2.keep _ _ _ (Lies.drew (lies_m0 _ 32 #[.string n, .int .i64 tT, .int .i64 tD, .int .i64 tC, .int .i64 tA, .int .i64 tS, .int .i64 tc, .int .i64 tM, .int .i64 tK, .int .i64 tO, .int .i64 tP])) ?_).alloc _)); exact block_ne (by omega)) | ((with_reducible refine tasks_11 n tT tD tC tA tS tc tM tK tO tP ((hp2.keep _ _ _ (Lies.drew ((lies_m0 _ 32 #[.string n, .int .i64 tT, .int .i64 tD, .int .i64 tC, .int .i64 tA, .int .i64 tS, .int .i64 tc, .int .i64 tM, .int .i64 tK, .int .i64 tO, .int .i64 tP]).alloc _)) ?_).alloc _)); exact block_ne (by omega)) | ((with_reducible refine tasks_11 n tT tD tC tA tS tc tM tK tO tP ((hp2.keep _ _ _ (Lies.drew (((lies_m0 _ 32 #[.string n, .int .i64 tT, .int .i64 tD, .int .i64 tC, .int .i64 tA, .int .i64 tS, .int .i64 tc, .int .i64 tM, .int .i64 tK, .int .i64 tO, .int .i64 tP]).alloc _).alloc _)) ?_).alloc _)); exact block_ne (by omega)) | ((with_reducible refine tasks_11 n tT tD tC tA tS tc tM tK tO tP ((hp2.keep _ _ _ (Lies.drew (lies_m1 _ _ 32 #[.string n, .int .i64 tT, .int .i64 tD, .int .i64 tC, .int .i64 tA, .int .i64 tS, .int .i64 tc, .int .i64 tM, .int .i64 tK, .int .i64 tO, .int .i64 tP])) ?_).alloc _)); exact block_ne (by omega)) | ((with_reducible refine tasks_11 n tT tD tC tA tS tc tM tK tO tP ((hp2.keep _ _ _ (Lies.drew ((lies_m1 _ _ 32 #[.string n, .int .i64 tT, .int .i64 tD, .int .i64 tC, .int .i64 tA, .int .i64 tS, .int .i64 tc, .int .i64 tM, .int .i64 tK, .int .i64 tO, .int .i64 tP]).alloc _)) ?_).alloc _)); exact block_ne (by omega)) | ((with_reducible refine tasks_11 n tT tD tC tA tS tc tM tK tO tP ((hp2.keep _ _ _ (Lies.drew (lies_m2 _ _ _ 32 #[.string n, .int .i64 tT, .int .i64 tD, .int .i64 tC, .int .i64 tA, .int .i64 tS, .int .i64 tc, .int .i64 tM, .int .i64 tK, .int .i64 tO, .int .i64 tP])) ?_).alloc _)); exact block_ne (by omega))) (by omega) (by omega) ?_; intro A3 c3 w5 hp3; first | (have hD : VarT X w5 (X.heap.size) A3 := (by ((with_reducible refine PostT.varE hp2 hp3 (Lies.drew (lies_m0 _ 24 #[.int .i64 0, .slice none 0 0])) (fun h => h) ?_ ?_); exact block_ne (by omega); omega)); have HD := Lib.hid hD; have d0 : w5.cell? ⟨X.heap.size, 0, none⟩ = some (.int .i64 0) := hD.1.cell 0; have d1 : w5.cell? ⟨X.heap.size, 1, none⟩ = some (.slice none 0 0) := hD.1.cell 1; have f0 := hD.1.thawed 0; have f1 := hD.1.thawed 1; clear hD) | (have hD : VarT X w5 (X.heap.size) A3 := (by ((with_reducible refine PostT.varE hp2 hp3 (Lies.drew (lies_m0 _ 24 #[.int .i64 0, .slice none 0 0])) (fun h => h.alloc _) ?_ ?_); exact block_ne (by omega); omega)); have HD := Lib.hid hD; have d0 : w5.cell? ⟨X.heap.size, 0, none⟩ = some (.int .i64 0) := hD.1.cell 0; have d1 : w5.cell? ⟨X.heap.size, 1, none⟩ = some (.slice none 0 0) := hD.1.cell 1; have f0 := hD.1.thawed 0; have f1 := hD.1.thawed 1; clear hD) | (have hD : VarT X w5 (X.heap.size) A3 := (by ((with_reducible refine PostT.varE hp2 hp3 (Lies.drew ((lies_m0 _ 24 #[.int .i64 0, .slice none 0 0]).alloc _)) (fun h => h) ?_ ?_); exact block_ne (by omega); omega)); have HD := Lib.hid hD; have d0 : w5.cell? ⟨X.heap.size, 0, none⟩ = some (.int .i64 0) := hD.1.cell 0; have d1 : w5.cell? ⟨X.heap.size, 1, none⟩ = some (.slice none 0 0) := hD.1.cell 1; have f0 := hD.1.thawed 0; have f1 := hD.1.thawed 1; clear hD) | (have hD : VarT X w5 (X.heap.size) A3 := (by ((with_reducible refine PostT.varE hp2 hp3 (Lies.drew ((lies_m0 _ 24 #[.int .i64 0, .slice none 0 0]).alloc _)) (fun h => h.alloc _) ?_ ?_); exact block_ne (by omega); omega)); have HD := Lib.hid hD; have d0 : w5.cell? ⟨X.heap.size, 0, none⟩ = some (.int .i64 0) := hD.1.cell 0; have d1 : w5.cell? ⟨X.heap.size, 1, none⟩ = some (.slice none 0 0) := hD.1.cell 1; have f0 := hD.1.thawed 0; have f1 := hD.1.thawed 1; clear hD) | (have hD : VarT X w5 (X.heap.size) A3 := (by ((with_reducible refine PostT.varE hp2 hp3 (Lies.drew (((lies_m0 _ 24 #[.int .i64 0, .slice none 0 0]).alloc _).alloc _)) (fun h => h) ?_ ?_); exact block_ne (by omega); omega)); have HD := Lib.hid hD; have d0 : w5.cell? ⟨X.heap.size, 0, none⟩ = some (.int .i64 0) := hD.1.cell 0; have d1 : w5.cell? ⟨X.heap.size, 1, none⟩ = some (.slice none 0 0) := hD.1.cell 1; have f0 := hD.1.thawed 0; have f1 := hD.1.thawed 1; clear hD) | (have hD : VarT X w5 (X.heap.size) A3 := (by ((with_reducible refine PostT.varE hp2 hp3 (Lies.drew (((lies_m0 _ 24 #[.int .i64 0, .slice none 0 0]).alloc _).alloc _)) (fun h => h.alloc _) ?_ ?_); exact block_ne (by omega); omega)); have HD := Lib.hid hD; have d0 : w5.cell? ⟨X.heap.size, 0, none⟩ = some (.int .i64 0) := hD.1.cell 0; have d1 : w5.cell? ⟨X.heap.size, 1, none⟩ = some (.slice none 0 0) := hD.1.cell 1; have f0 := hD.1.thawed 0; have f1 := hD.1.thawed 1; clear hD) | (have hD : VarT X w5 (X.heap.size + 1) A3 := (by ((with_reducible refine PostT.varE hp2 hp3 (Lies.drew (lies_m1 _ _ 24 #[.int .i64 0, .slice none 0 0])) (fun h => h) ?_ ?_); exact block_ne (by omega); omega)); have HD := Lib.hid hD; have d0 : w5.cell? ⟨X.heap.size + 1, 0, none⟩ = some (.int .i64 0) := hD.1.cell 0; have d1 : w5.cell? ⟨X.heap.size + 1, 1, none⟩ = some (.slice none 0 0) := hD.1.cell 1; have f0 := hD.1.thawed 0; have f1 := hD.1.thawed 1; clear hD) | (have hD : VarT X w5 (X.heap.size + 1) A3 := (by ((with_reducible refine PostT.varE hp2 hp3 (Lies.drew (lies_m1 _ _ 24 #[.int .i64 0, .slice none 0 0])) (fun h => h.alloc _) ?_ ?_); exact block_ne (by omega); omega)); have HD := Lib.hid hD; have d0 : w5.cell? ⟨X.heap.size + 1, 0, none⟩ = some (.int .i64 0) := hD.1.cell 0; have d1 : w5.cell? ⟨X.heap.size + 1, 1, none⟩ = some (.slice none 0 0) := hD.1.cell 1; have f0 := hD.1.thawed 0; have f1 := hD.1.thawed 1; clear hD) | (have hD : VarT X w5 (X.heap.size + 1) A3 := (by ((with_reducible refine PostT.varE hp2 hp3 (Lies.drew ((lies_m1 _ _ 24 #[.int .i64 0, .slice none 0 0]).alloc _)) (fun h => h) ?_ ?_); exact block_ne (by omega); omega)); have HD := Lib.hid hD; have d0 : w5.cell? ⟨X.heap.size + 1, 0, none⟩ = some (.int .i64 0) := hD.1.cell 0; have d1 : w5.cell? ⟨X.heap.size + 1, 1, none⟩ = some (.slice none 0 0) := hD.1.cell 1; have f0 := hD.1.thawed 0; have f1 := hD.1.thawed 1; clear hD) | (have hD : VarT X w5 (X.heap.size + 1) A3 := (by ((with_reducible refine PostT.varE hp2 hp3 (Lies.drew ((lies_m1 _ _ 24 #[.int .i64 0, .slice none 0 0]).alloc _)) (fun h => h.alloc _) ?_ ?_); exact block_ne (by omega); omega)); have HD := Lib.hid hD; have d0 : w5.cell? ⟨X.heap.size + 1, 0, none⟩ = some (.int .i64 0) := hD.1.cell 0; have d1 : w5.cell? ⟨X.heap.size + 1, 1, none⟩ = some (.slice none 0 0) := hD.1.cell 1; have f0 := hD.1.thawed 0; have f1 := hD.1.thawed 1; clear hD) | (have hD : VarT X w5 (X.heap.size + 1 + 1) A3 := (by ((with_reducible refine PostT.varE hp2 hp3 (Lies.drew (lies_m2 _ _ _ 24 #[.int .i64 0, .slice none 0 0])) (fun h => h) ?_ ?_); exact block_ne (by omega); omega)); have HD := Lib.hid hD; have d0 : w5.cell? ⟨X.heap.size + 1 + 1, 0, none⟩ = some (.int .i64 0) := hD.1.cell 0; have d1 : w5.cell? ⟨X.heap.size + 1 + 1, 1, none⟩ = some (.slice none 0 0) := hD.1.cell 1; have f0 := hD.1.thawed 0; have f1 := hD.1.thawed 1; clear hD) | (have hD : VarT X w5 (X.heap.size + 1 + 1) A3 := (by ((with_reducible refine PostT.varE hp2 hp3 (Lies.drew (lies_m2 _ _ _ 24 #[.int .i64 0, .slice none 0 0])) (fun h => h.alloc _) ?_ ?_); exact block_ne (by omega); omega)); have HD := Lib.hid hD; have d0 : w5.cell? ⟨X.heap.size + 1 + 1, 0, none⟩ = some (.int .i64 0) := hD.1.cell 0; have d1 : w5.cell? ⟨X.heap.size + 1 + 1, 1, none⟩ = some (.slice none 0 0) := hD.1.cell 1; have f0 := hD.1.thawed 0; have f1 := hD.1.thawed 1; clear hD) | (have hD : VarT X w5 (w4.heap.size) A3 := (by ((with_reducible refine PostT.varB hp2 hp3 (lies_m0 _ 24 #[.int .i64 0, .slice none 0 0]) ?_); omega)); have HD := Lib.hid hD; have d0 : w5.cell? ⟨w4.heap.size, 0, none⟩ = some (.int .i64 0) := hD.1.cell 0; have d1 : w5.cell? ⟨w4.heap.size, 1, none⟩ = some (.slice none 0 0) := hD.1.cell 1; have f0 := hD.1.thawed 0; have f1 := hD.1.thawed 1; clear hD) | (have hD : VarT X w5 (w4.heap.size) A3 := (by ((with_reducible refine PostT.varB hp2 hp3 ((lies_m0 _ 24 #[.int .i64 0, .slice none 0 0]).alloc _) ?_); omega)); have HD := Lib.hid hD; have d0 : w5.cell? ⟨w4.heap.size, 0, none⟩ = some (.int .i64 0) := hD.1.cell 0; have d1 : w5.cell? ⟨w4.heap.size, 1, none⟩ = some (.slice none 0 0) := hD.1.cell 1; have f0 := hD.1.thawed 0; have f1 := hD.1.thawed 1; clear hD) | (have hD : VarT X w5 (w4.heap.size + 1) A3 := (by ((with_reducible refine PostT.varB hp2 hp3 (lies_m1 _ _ 24 #[.int .i64 0, .slice none 0 0]) ?_); omega)); have HD := Lib.hid hD; have d0 : w5.cell? ⟨w4.heap.size + 1, 0, none⟩ = some (.int .i64 0) := hD.1.cell 0; have d1 : w5.cell? ⟨w4.heap.size + 1, 1, none⟩ = some (.slice none 0 0) := hD.1.cell 1; have f0 := hD.1.thawed 0; have f1 := hD.1.thawed 1; clear hD) | skip))
        all_goals
          go_wp2
          go_meet
          first | exact hp3.late b | exact hp3.early HD.out b
      case rest =>
        obtain ⟨g7, A7, c7, rfl, hL7, hT7, hB7⟩ := hcut
        have HL7 := Lib.hid hL7
        have HT7 := Lib.hid hT7
        have HB7 := Lib.hid hB7
        have HXC := Lib.hid (HXX.out.below hB7 HXX.out.lt)
        have HPC := Lib.hid (HPX.out.below hB7 HPX.out.lt)
        have HBC := Lib.hid (HBX.out.trans (hB7.mono HBX.out.size))
        clear hL7 hT7 hB7 y0 y1 x0 x1 x2 x3 x4 x5 x6 x7 x8 x9 x10 hw KP HXX HPX HTX
        have g0 : wc.cell? ⟨g7, 0, none⟩ = some (.int .i64 b) := HL7.out.cell 0
        have g1 : wc.cell? ⟨g7, 1, none⟩ = some (.slice A7 (k + 1) c7) := HL7.out.cell 1
        obtain ⟨p, hp⟩ : ∃ p, p = whyF b (l.take k ++ [⟨n, tT, tD, tC, tA, tS, tc, tM, tK, tO, tP⟩]) := ⟨_, rfl⟩
        have K1 : Hid (Calls Try.prog 11 #[.agg #[.int .i64 b, .slice A7 (k + 1) c7]] wc (Whys p wc)) := by
          have := why b (l.take k ++ [⟨n, tT, tD, tC, tA, tS, tc, tM, tK, tO, tP⟩]) A7 c7 (w := wc) (by unfold maxLen; simp; omega) HT7.out
          rw [List.length_append, HLK.out, ← hp] at this
          exact this
        have HPV : Hid (k = 16 ∧ p = (2, -1) ∨ k < 16 ∧ p = (3, (k : Int))) := by
          have hku : u = k - 1 := by have := HKU.out; omega
          have hxu := HXU.out
          rw [hku] at hxu
          by_cases h16 : k = 16
          · subst h16
            exact .inl ⟨rfl, by rw [hp]; exact twice_many HRT.out hkl⟩
          · exact .inr ⟨by omega, by rw [hp]; exact twice_name HRT.out hk1 hkl (by omega) hxu⟩
        clear hp
        go_wp2_with (fail)
        with_reducible refine K1.out.mono ?_
        rintro e w6 ⟨rfl, hb6⟩
        have HX6 := Lib.hid (HXC.out.below hb6 HXC.out.lt)
        have HP6 := Lib.hid (HPC.out.below hb6 HPC.out.lt)
        have HB6 := Lib.hid (HBC.out.trans (hb6.mono HBC.out.size))
        clear hb6 g0 g1 K1 HL7 HT7 HXC HPC HBC
        have p0 : w6.cell? ⟨gp, 0, none⟩ = some (.int .i64 b) := HP6.out.cell 0
        have p1 : w6.cell? ⟨gp, 1, none⟩ = some (.slice (some ⟨bb, off, none⟩) k cap) := HP6.out.cell 1
        have K2 : Hid (Calls Try.prog 13 #[.agg #[.int .i64 b, .slice (some ⟨bb, off, none⟩) k cap]] w6 (Tells true w6)) := by
          have := right b (l.take k) (some ⟨bb, off, none⟩) cap (w := w6) (by unfold maxLen; rw [HLK.out]; omega) ((HT.out.below (Nat.le_refl _) HB6.out).take k)
          rw [HLK.out, parts_right HRT.out hk1 hkl] at this
          exact this
        go_wp2_with (fail)
        with_reducible refine K2.out.mono ?_
        rintro e w7 ⟨rfl, hb7⟩
        have HX7 := Lib.hid (HX6.out.below hb7 HX6.out.lt)
        have HB7' := Lib.hid (HB6.out.trans (hb7.mono HB6.out.size))
        clear hb7 p0 p1 K2 HX6 HP6 HB6
        have y1 : w7.cell? ⟨w.heap.size, 1, none⟩ = some (.slice (some ⟨bb, off, none⟩) l.length cap) := HX7.out.cell 1
        have K3 : Hid (Calls Try.prog 13 #[.agg #[.int .i64 0, .slice (some ⟨bb, off, none⟩) l.length cap]] w7 (Tells false w7)) := by
          have := right 0 l (some ⟨bb, off, none⟩) cap (w := w7) HM.out (HT.out.below (Nat.le_refl _) HB7'.out)
          rw [parts_burst] at this
          exact this
        rcases HPV.out with ⟨hk16, hp⟩ | ⟨hk16, hp⟩
        · subst hp
          have e1 : ((k : Int) == 16) = true := by simp; omega
          clear hk16 HPV
          go_wp2_with (fail)
          with_reducible refine K3.out.mono ?_
          rintro e w8 ⟨rfl, hb8⟩
          have HB8 := Lib.hid (HB7'.out.trans (hb8.mono HB7'.out.size))
          clear hb8
          go_wp2
          go_ret
          exact ⟨rfl, HB8.out⟩
        · subst hp
          have e1 : ((k : Int) == 16) = false := by simp; omega
          have e2 : decide ((k : Int) < 16) = true := by simp; omega
          clear HPV
          go_wp2_with (fail)
          with_reducible refine K3.out.mono ?_
          rintro e w8 ⟨rfl, hb8⟩
          have HB8 := Lib.hid (HB7'.out.trans (hb8.mono HB7'.out.size))
          clear hb8
          go_wp2
          go_ret
          exact ⟨rfl, HB8.out⟩
end Go.Proofs.Ytkldpbehjbecnaa
