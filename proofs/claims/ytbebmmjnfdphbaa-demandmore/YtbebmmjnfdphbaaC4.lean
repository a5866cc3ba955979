/- The walk of the statement on more and less. -/
import Derived.Test.YtbebmmjnfdphbaaDn
import Derived.Deep.RegionHeld3
namespace Go.Proofs.Ytbebmmjnfdphbaa
open Go.RowKit

set_option maxRecDepth 100000 in
set_option maxHeartbeats 8000000 in
theorem coreMore (t : Tk) (d e : Int) (w : World) (d0 : 0 ≤ d) (d1 : d < 65536) (e0 : 0 ≤ e) (e1 : e < 65536) : Calls Try.prog 6 #[aggK t, .int .u16 d, .int .u16 e] w (Woke w) := by
  have HB := Lib.hid (Box.made w t)
  have KR := Lib.hid (fun W => refRightT t W)
  have HF := Lib.hid (fun h => fine_right (t := t) h)
  simp only [boxT] at HB
  simp only [aggK] at KR ⊢
  go_enter Try.func6, Try.ntmps6
  go_wp2_with (fail)
  refine (awake _).mono ?_
  rintro e w1 ⟨rfl, hb1⟩
  have HB1 := Lib.hid (HB.out.tells hb1)
  clear hb1 HB
  obtain ⟨y0, y1, y2, y3, y4, y5, y6, y7, y8, y9, y10⟩ := HB1.out.cells
  by_cases hn : 60 < t.name.size
  · have t1 : decide ((60 : Int) < (t.name.size : Int)) = true := by simp; omega
    go_wp2_with (fail)
    refine (awake _).mono ?_
    rintro e w9 ⟨rfl, hb9⟩
    have H9 := Lib.hid (HB1.out.tells hb9)
    clear hb9
    go_wp2
    go_ret
    exact ⟨rfl, H9.out.below⟩
  · have t1 : decide ((60 : Int) < (t.name.size : Int)) = false := by simp; omega
    go_wp2_with (fail)
    with_reducible refine (KR.out _).mono ?_
    rintro e w2 ⟨rfl, hb2⟩
    have HB2 := Lib.hid (HB1.out.tells hb2)
    clear hb2 y0 y1 y2 y3 y4 y5 y6 y7 y8 y9 y10 HB1 KR t1
    obtain ⟨y0, y1, y2, y3, y4, y5, y6, y7, y8, y9, y10⟩ := HB2.out.cells
    cases hR : rightT t with
    | false =>
      clear hR
      go_wp2_with (fail)
      refine (awake _).mono ?_
      rintro e w9 ⟨rfl, hb9⟩
      have H9 := Lib.hid (HB2.out.tells hb9)
      clear hb9
      go_wp2
      go_ret
      exact ⟨rfl, H9.out.below⟩
    | true =>
      have hf := HF.out hR
      clear hR HF hn
      by_cases hC : 3000 < t.C
      · have t1 : decide (3000 < t.C) = true := decide_eq_true hC
        go_wp2_with (fail)
        refine (awake _).mono ?_
        rintro e w9 ⟨rfl, hb9⟩
        have H9 := Lib.hid (HB2.out.tells hb9)
        clear hb9
        go_wp2
        go_ret
        exact ⟨rfl, H9.out.below⟩
      · have t1 : decide (3000 < t.C) = false := decide_eq_false hC
        have hC3 : t.C ≤ 3000 := by omega
        obtain ⟨b1, b2, b3, b4, _, _⟩ := hf.nums
        clear hC
        have r0 := Int.emod_nonneg d (show t.C ≠ 0 by omega)
        have r1 := Int.emod_lt_of_pos d (show 0 < t.C by omega)
        have r2 := Int.emod_nonneg e (show t.C ≠ 0 by omega)
        have r3 := Int.emod_lt_of_pos e (show 0 < t.C by omega)
        have hne : (t.C == 0) = false := by simp; omega
        by_cases hxy : e % t.C < d % t.C
        · have f0 : decide (1 + e % t.C < 1 + d % t.C) = true := by simp; omega
          have f0' : decide (e % t.C < d % t.C) = true := by simp; omega
          obtain ⟨N, sA, hwA⟩ := ways_of hf (show 1 ≤ (1 + e % t.C) by omega)
          obtain ⟨M, sB, hwB⟩ := ways_of hf (show 1 ≤ (1 + d % t.C) by omega)
          have KA := Lib.hid (fun W => partsN hf hwA (by omega) hC3 W)
          have KB := Lib.hid (fun W => partsN hf hwB (by omega) hC3 W)
          have KQ := Lib.hid (fun W => refPartsN hf hwA (by omega) hC3 W)
          obtain ⟨hB1, hB2, hB3, hB4⟩ := parts_less hf hwA hwB (by omega)
          have PA := Lib.hid (pl_small hf hwA (by omega) hC3)
          have PB := Lib.hid (pl_small hf hwB (by omega) hC3)
          have LA := Lib.hid (length_pl sA t.Cost (1 + e % t.C) N)
          have LB := Lib.hid (length_pl sB t.Cost (1 + d % t.C) M)
          have hN : N ≤ 3000 := by have := hwA.cuts.few; omega
          have hM : M ≤ 3000 := by have := hwB.cuts.few; omega
          simp only [aggK] at KA KB KQ
          generalize pl sA t.Cost (1 + e % t.C) N = A at *
          generalize pl sB t.Cost (1 + d % t.C) M = B at *
          obtain ⟨sa, hsa⟩ : ∃ sa, sa = A.sum := ⟨_, rfl⟩
          obtain ⟨sb, hsb⟩ : ∃ sb, sb = B.sum := ⟨_, rfl⟩
          rw [← hsa] at hB1 hB2
          rw [← hsb] at hB1
          have HSA := Lib.hid hsa
          have HSB := Lib.hid hsb
          clear hwA hwB hsa hsb hf
          go_wp2_with (fail)
          with_reducible refine (KA.out _).mono ?_
          rintro en w3 ⟨g, c, rfl, hg, hc, hr, hb3⟩
          have HB3 := Lib.hid (HB2.out.tells hb3)
          have HR3 := Lib.hid hr
          have hgw : w.heap.size < g := Nat.lt_of_lt_of_le HB2.out.lt hg
          clear hb3 hr hg HB2
          clear y0 y1 y2 y3 y4 y5 y6 y7 y8 y9 y10
          obtain ⟨y0, y1, y2, y3, y4, y5, y6, y7, y8, y9, y10⟩ := HB3.out.cells
          go_wp2_with (fail)
          with_reducible refine (KB.out _).mono ?_
          rintro en w6 ⟨g2, c2, rfl, hg2, hc2, hr2, hb6⟩
          have HB6 := Lib.hid (HB3.out.tells hb6)
          have HA6 := Lib.hid (HR3.out.tells hb6)
          have HR6 := Lib.hid hr2
          clear hb6 hr2 hg2 HB3 HR3 KB
          clear y0 y1 y2 y3 y4 y5 y6 y7 y8 y9 y10
          have cA := sum LA.out (by omega) PA.out (HA6.out.ints (c := c) (by have := LA.out; omega))
          have cB := sum LB.out (by omega) PB.out (HR6.out.ints (c := c2) (by have := LB.out; omega))
          rw [← HSA.out] at cA
          rw [← HSB.out] at cB
          have f1 : decide (sb < sa) = false := by simp; omega
          have f2 : decide ((M : Int) < (N : Int)) = false := by simp; omega
          have f2' : decide (M < N) = false := by simp; omega
          go_wp2_with (fail)
          with_reducible refine cA.mono ?_
          rintro en w7 ⟨rfl, rfl⟩
          go_wp2_with (fail)
          with_reducible refine cB.mono ?_
          rintro en w7 ⟨rfl, rfl⟩
          clear cA cB
          have hsz := HB6.out.below.size
          go_wp2
          go_loopw [12] (fun i W => ∃ k : Nat, k ≤ N ∧ i = .int .i64 (k : Int) ∧ Box w t W ∧ Rest W g k A) (fun i _ => N - (intOf i).toNat)
          case atStart => exact ⟨0, by omega, rfl, HB6.out, HA6.out⟩
          case round =>
            obtain ⟨k, hk, rfl, hbx, hre⟩ := hrel
            have HX := Lib.hid hbx
            have HO := Lib.hid hre
            clear hbx hre
            by_cases hlt : k < N
            · have t6 : decide ((k : Int) < (N : Int)) = true := by simp; omega
              have hy : A[k]? = some (A[k]'(by have := LA.out; omega)) := List.getElem?_eq_getElem _
              have v0 := HO.out.cell (Nat.le_refl k) hy
              have v1 := HO.out.thawed k
              clear hy
              generalize A[k]'_ = y at v0
              have HX2 := Lib.hid (show Box w t (wr.setCell ⟨g, k, none⟩ (.int .i64 (-1))) from ⟨HX.out.below.setCell (by show w.heap.size ≤ g; omega) _, HX.out.lies.there (by show w.heap.size ≠ g; omega) _⟩)
              have HO2 := Lib.hid (HO.out.set (.int .i64 (-1)))
              go_wp2
              go_roundw
              case rel => exact ⟨k + 1, by omega, by go_num, HX2.out, HO2.out⟩
              case measure => simp [intOf]; omega
            · have t6 : decide ((k : Int) < (N : Int)) = false := by simp; omega
              obtain rfl : k = N := by omega
              obtain ⟨y0, y1, y2, y3, y4, y5, y6, y7, y8, y9, y10⟩ := HX.out.cells
              go_wp2
              go_region_held3 (fun W' => W'.cell? ⟨w.heap.size, 0, none⟩ = some (.string t.name) ∧ W'.cell? ⟨w.heap.size, 1, none⟩ = some (.int .i64 t.T) ∧ W'.cell? ⟨w.heap.size, 2, none⟩ = some (.int .i64 t.D) ∧ W'.cell? ⟨w.heap.size, 3, none⟩ = some (.int .i64 t.C) ∧ W'.cell? ⟨w.heap.size, 4, none⟩ = some (.int .i64 t.A) ∧ W'.cell? ⟨w.heap.size, 5, none⟩ = some (.int .i64 t.Seg) ∧ W'.cell? ⟨w.heap.size, 6, none⟩ = some (.int .i64 t.Cost) ∧ W'.cell? ⟨w.heap.size, 7, none⟩ = some (.int .i64 t.M) ∧ W'.cell? ⟨w.heap.size, 8, none⟩ = some (.int .i64 t.K) ∧ W'.cell? ⟨w.heap.size, 9, none⟩ = some (.int .i64 t.Mode) ∧ W'.cell? ⟨w.heap.size, 10, none⟩ = some (.int .i64 t.Prio)) (first | go_keep | exact U2.out.cells | exact U1.out.cells | exact (HX.out.drewN 1).cells)
                (first
                  | (with_reducible refine (KA.out _).mono ?_
                     rintro en u1 ⟨ga, ca, rfl, hga, hca, hra, hba⟩
                     have U1 := Lib.hid ((HX.out.drewN 1).tells hba)
                     have CA1 := sum LA.out (by omega) PA.out (hra.ints (c := ca) (by have := LA.out; omega))
                     rw [← HSA.out] at CA1
                     have CA1 := Lib.hid CA1
                     clear hba hra hga)
                  | (with_reducible refine (KQ.out _).mono ?_
                     rintro en u2 ⟨gb, cb, rfl, hgb, hcb, hrb, hbb⟩
                     have U2 := Lib.hid (U1.out.tells hbb)
                     have CA2 := sum LA.out (by omega) PA.out (hrb.ints (c := cb) (by have := LA.out; omega))
                     rw [← HSA.out] at CA2
                     have CA2 := Lib.hid CA2
                     clear hbb hrb hgb)
                  | (with_reducible refine CA1.out.mono ?_
                     rintro en u3 ⟨rfl, rfl⟩)
                  | (with_reducible refine CA2.out.mono ?_
                     rintro en u4 ⟨rfl, rfl⟩))
              all_goals
                go_wp2
                go_ret
                exact ⟨rfl, U2.out.below⟩

        · have f0 : decide (1 + e % t.C < 1 + d % t.C) = false := by simp; omega
          have f0' : decide (e % t.C < d % t.C) = false := by simp; omega
          obtain ⟨N, sA, hwA⟩ := ways_of hf (show 1 ≤ (1 + d % t.C) by omega)
          obtain ⟨M, sB, hwB⟩ := ways_of hf (show 1 ≤ (1 + e % t.C) by omega)
          have KA := Lib.hid (fun W => partsN hf hwA (by omega) hC3 W)
          have KB := Lib.hid (fun W => partsN hf hwB (by omega) hC3 W)
          have KQ := Lib.hid (fun W => refPartsN hf hwA (by omega) hC3 W)
          obtain ⟨hB1, hB2, hB3, hB4⟩ := parts_less hf hwA hwB (by omega)
          have PA := Lib.hid (pl_small hf hwA (by omega) hC3)
          have PB := Lib.hid (pl_small hf hwB (by omega) hC3)
          have LA := Lib.hid (length_pl sA t.Cost (1 + d % t.C) N)
          have LB := Lib.hid (length_pl sB t.Cost (1 + e % t.C) M)
          have hN : N ≤ 3000 := by have := hwA.cuts.few; omega
          have hM : M ≤ 3000 := by have := hwB.cuts.few; omega
          simp only [aggK] at KA KB KQ
          generalize pl sA t.Cost (1 + d % t.C) N = A at *
          generalize pl sB t.Cost (1 + e % t.C) M = B at *
          obtain ⟨sa, hsa⟩ : ∃ sa, sa = A.sum := ⟨_, rfl⟩
          obtain ⟨sb, hsb⟩ : ∃ sb, sb = B.sum := ⟨_, rfl⟩
          rw [← hsa] at hB1 hB2
          rw [← hsb] at hB1
          have HSA := Lib.hid hsa
          have HSB := Lib.hid hsb
          clear hwA hwB hsa hsb hf
          go_wp2_with (fail)
          with_reducible refine (KA.out _).mono ?_
          rintro en w3 ⟨g, c, rfl, hg, hc, hr, hb3⟩
          have HB3 := Lib.hid (HB2.out.tells hb3)
          have HR3 := Lib.hid hr
          have hgw : w.heap.size < g := Nat.lt_of_lt_of_le HB2.out.lt hg
          clear hb3 hr hg HB2
          clear y0 y1 y2 y3 y4 y5 y6 y7 y8 y9 y10
          obtain ⟨y0, y1, y2, y3, y4, y5, y6, y7, y8, y9, y10⟩ := HB3.out.cells
          go_wp2_with (fail)
          with_reducible refine (KB.out _).mono ?_
          rintro en w6 ⟨g2, c2, rfl, hg2, hc2, hr2, hb6⟩
          have HB6 := Lib.hid (HB3.out.tells hb6)
          have HA6 := Lib.hid (HR3.out.tells hb6)
          have HR6 := Lib.hid hr2
          clear hb6 hr2 hg2 HB3 HR3 KB
          clear y0 y1 y2 y3 y4 y5 y6 y7 y8 y9 y10
          have cA := sum LA.out (by omega) PA.out (HA6.out.ints (c := c) (by have := LA.out; omega))
          have cB := sum LB.out (by omega) PB.out (HR6.out.ints (c := c2) (by have := LB.out; omega))
          rw [← HSA.out] at cA
          rw [← HSB.out] at cB
          have f1 : decide (sb < sa) = false := by simp; omega
          have f2 : decide ((M : Int) < (N : Int)) = false := by simp; omega
          have f2' : decide (M < N) = false := by simp; omega
          go_wp2_with (fail)
          with_reducible refine cA.mono ?_
          rintro en w7 ⟨rfl, rfl⟩
          go_wp2_with (fail)
          with_reducible refine cB.mono ?_
          rintro en w7 ⟨rfl, rfl⟩
          clear cA cB
          have hsz := HB6.out.below.size
          go_wp2
          go_loopw [12] (fun i W => ∃ k : Nat, k ≤ N ∧ i = .int .i64 (k : Int) ∧ Box w t W ∧ Rest W g k A) (fun i _ => N - (intOf i).toNat)
          case atStart => exact ⟨0, by omega, rfl, HB6.out, HA6.out⟩
          case round =>
            obtain ⟨k, hk, rfl, hbx, hre⟩ := hrel
            have HX := Lib.hid hbx
            have HO := Lib.hid hre
            clear hbx hre
            by_cases hlt : k < N
            · have t6 : decide ((k : Int) < (N : Int)) = true := by simp; omega
              have hy : A[k]? = some (A[k]'(by have := LA.out; omega)) := List.getElem?_eq_getElem _
              have v0 := HO.out.cell (Nat.le_refl k) hy
              have v1 := HO.out.thawed k
              clear hy
              generalize A[k]'_ = y at v0
              have HX2 := Lib.hid (show Box w t (wr.setCell ⟨g, k, none⟩ (.int .i64 (-1))) from ⟨HX.out.below.setCell (by show w.heap.size ≤ g; omega) _, HX.out.lies.there (by show w.heap.size ≠ g; omega) _⟩)
              have HO2 := Lib.hid (HO.out.set (.int .i64 (-1)))
              go_wp2
              go_roundw
              case rel => exact ⟨k + 1, by omega, by go_num, HX2.out, HO2.out⟩
              case measure => simp [intOf]; omega
            · have t6 : decide ((k : Int) < (N : Int)) = false := by simp; omega
              obtain rfl : k = N := by omega
              obtain ⟨y0, y1, y2, y3, y4, y5, y6, y7, y8, y9, y10⟩ := HX.out.cells
              go_wp2
              go_region_held3 (fun W' => W'.cell? ⟨w.heap.size, 0, none⟩ = some (.string t.name) ∧ W'.cell? ⟨w.heap.size, 1, none⟩ = some (.int .i64 t.T) ∧ W'.cell? ⟨w.heap.size, 2, none⟩ = some (.int .i64 t.D) ∧ W'.cell? ⟨w.heap.size, 3, none⟩ = some (.int .i64 t.C) ∧ W'.cell? ⟨w.heap.size, 4, none⟩ = some (.int .i64 t.A) ∧ W'.cell? ⟨w.heap.size, 5, none⟩ = some (.int .i64 t.Seg) ∧ W'.cell? ⟨w.heap.size, 6, none⟩ = some (.int .i64 t.Cost) ∧ W'.cell? ⟨w.heap.size, 7, none⟩ = some (.int .i64 t.M) ∧ W'.cell? ⟨w.heap.size, 8, none⟩ = some (.int .i64 t.K) ∧ W'.cell? ⟨w.heap.size, 9, none⟩ = some (.int .i64 t.Mode) ∧ W'.cell? ⟨w.heap.size, 10, none⟩ = some (.int .i64 t.Prio)) (first | go_keep | exact U2.out.cells | exact U1.out.cells | exact (HX.out.drewN 1).cells)
                (first
                  | (with_reducible refine (KA.out _).mono ?_
                     rintro en u1 ⟨ga, ca, rfl, hga, hca, hra, hba⟩
                     have U1 := Lib.hid ((HX.out.drewN 1).tells hba)
                     have CA1 := sum LA.out (by omega) PA.out (hra.ints (c := ca) (by have := LA.out; omega))
                     rw [← HSA.out] at CA1
                     have CA1 := Lib.hid CA1
                     clear hba hra hga)
                  | (with_reducible refine (KQ.out _).mono ?_
                     rintro en u2 ⟨gb, cb, rfl, hgb, hcb, hrb, hbb⟩
                     have U2 := Lib.hid (U1.out.tells hbb)
                     have CA2 := sum LA.out (by omega) PA.out (hrb.ints (c := cb) (by have := LA.out; omega))
                     rw [← HSA.out] at CA2
                     have CA2 := Lib.hid CA2
                     clear hbb hrb hgb)
                  | (with_reducible refine CA1.out.mono ?_
                     rintro en u3 ⟨rfl, rfl⟩)
                  | (with_reducible refine CA2.out.mono ?_
                     rintro en u4 ⟨rfl, rfl⟩))
              all_goals
                go_wp2
                go_ret
                exact ⟨rfl, U2.out.below⟩

end Go.Proofs.Ytbebmmjnfdphbaa
