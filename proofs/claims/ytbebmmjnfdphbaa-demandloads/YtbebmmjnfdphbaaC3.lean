/- The walk of the statement on loads. -/
import Derived.Test.YtbebmmjnfdphbaaC1
import Derived.Test.YtbebmmjnfdphbaaFw
namespace Go.Proofs.Ytbebmmjnfdphbaa
open Go.RowKit

set_option maxRecDepth 100000 in
set_option maxHeartbeats 8000000 in
theorem coreLoads (b : Int) (l : List Tk) (a : Option Addr) (cap : Nat) {w : World} (hm : l.length ≤ maxLen) (ht : Tasks w a cap l) :
    Calls Try.prog 5 #[.agg #[.int .i64 b, .slice a l.length cap]] w (Woke w) := by
  have HT := Lib.hid ht
  have HM := Lib.hid hm
  have HB := Lib.hid (SetBox.made w b a l.length cap)
  clear ht hm
  go_enter Try.func5, Try.ntmps5
  go_wp2_with (fail)
  refine (awake _).mono ?_
  rintro e w1 ⟨rfl, hb1⟩
  have HB1 := Lib.hid (HB.out.tells hb1)
  clear hb1 HB
  obtain ⟨z0, z1⟩ := HB1.out.cells
  have KF := Lib.hid (few b l a cap HM.out (HT.out.below (Nat.le_refl _) HB1.out.below))
  go_wp2_with (fail)
  with_reducible refine KF.out.mono ?_
  rintro e w2 ⟨fb, rfl, hb2, hf⟩
  have HB2 := Lib.hid (HB1.out.tells hb2)
  have HFW := Lib.hid hf
  clear hb2 hf z0 z1 HB1 KF
  obtain ⟨z0, z1⟩ := HB2.out.cells
  cases fb with
  | false =>
    go_wp2_with (fail)
    refine (awake _).mono ?_
    rintro e w9 ⟨rfl, hb9⟩
    have H9 := Lib.hid (HB2.out.tells hb9)
    clear hb9
    go_wp2
    go_ret
    exact ⟨rfl, H9.out.below⟩
  | true =>
    have hl30 := (HFW.out rfl).1
    have KR := Lib.hid (refRight b l a cap HM.out (HT.out.below (Nat.le_refl _) HB2.out.below))
    go_wp2_with (fail)
    with_reducible refine KR.out.mono ?_
    rintro e w3 ⟨rfl, hb3⟩
    have HB3 := Lib.hid (HB2.out.tells hb3)
    clear hb3 z0 z1 HB2 KR HFW
    obtain ⟨z0, z1⟩ := HB3.out.cells
    cases hR : ((whyF b l).1 == 0) with
    | false =>
      clear hR
      go_wp2_with (fail)
      refine (awake _).mono ?_
      rintro e w9 ⟨rfl, hb9⟩
      have H9 := Lib.hid (HB3.out.tells hb9)
      clear hb9
      go_wp2
      go_ret
      exact ⟨rfl, H9.out.below⟩
    | true =>
      have hfine : ∀ (i : Nat) (t : Tk), l[i]? = some t → Fine t := by
        have h0 : (whyF b l).1 = 0 := by simpa using hR
        exact fun i t hi => fine_of (((right_iff b l).1 h0).2.2 i t hi)
      have HF := Lib.hid hfine
      have hmem : ∀ t ∈ l, Fine t := fun t ht => by
        obtain ⟨i, hi, rfl⟩ := List.getElem_of_mem ht
        exact hfine i _ (List.getElem?_eq_getElem hi)
      have HME := Lib.hid hmem
      have HNU := Lib.hid (loads_nums hmem)
      clear hR hfine hmem
      go_wp2
      go_loopw [3, 4] (fun s i W => LoadRel b l a cap w s i W) (fun _ i _ => l.length - (intOf i).toNat)
      case atStart => exact ⟨0, by omega, rfl, rfl, HB3.out⟩
      case round =>
        obtain ⟨k, hk, rfl, rfl, hs⟩ := hrel
        have HS := Lib.hid hs
        clear hs z0 z1
        obtain ⟨z0, z1⟩ := HS.out.cells
        by_cases hlt : k < l.length
        · have t1 : decide ((k : Int) < (l.length : Int)) = true := by simp; omega
          have hx : l[k]? = some l[k] := List.getElem?_eq_getElem hlt
          have HTW := Lib.hid (HT.out.below (Nat.le_refl _) HS.out.below)
          obtain ⟨bb, off, rfl, hbl, x0, x1, x2, x3, x4, x5, x6, x7, x8, x9, x10⟩ := HTW.out.cells hx
          have hfx := HF.out k _ hx
          have KW := Lib.hid (fun W => wholeAny hfx W)
          obtain ⟨m1, m2⟩ := HNU.out k hk
          obtain ⟨wn1, wn2⟩ := whole_nums hfx
          obtain ⟨b1, b2, b3, b4, b5, b6⟩ := hfx.nums
          obtain ⟨n1, n2⟩ := load_nums hfx
          have hag := hfx.again
          have HN := Lib.hid (loads_next hx)
          clear hfx hx
          generalize l[k] = x at *
          have HX3 := Lib.hid (Lies.made wr 23 (boxT x))
          have HSX := Lib.hid (HS.out.tells (below_new wr (.cells (boxT x) 23)))
          simp only [boxT] at HSX HX3
          simp only [aggK] at KW
          have HLV := Lib.hid (show loadV x = (1000 * wholeV x + x.T - 1) / x.T from rfl)
          rw [HLV.out] at HN n1 n2
          have q0 : 0 ≤ (k : Int) := by omega
          by_cases hmo : x.Mode = 1
          · have hs1 : 1 ≤ x.Seg ∧ x.Seg ≤ 1048576 := by rcases hag with ⟨_, h1, h2⟩ | ⟨h1, _, _⟩ <;> omega
            obtain ⟨hs1, hs2⟩ := hs1
            have HWV := Lib.hid (show wholeV x = x.C + (x.C + x.Seg - 1) / x.Seg * x.Cost by unfold wholeV; rw [if_pos hmo])
            have d0 : 0 ≤ (x.C + x.Seg - 1) / x.Seg := Int.ediv_nonneg (by omega) (by omega)
            have d1 : (x.C + x.Seg - 1) / x.Seg ≤ 2097152 := Int.le_trans (Int.ediv_le_self _ (by omega)) (by omega)
            have p0 : 0 ≤ (x.C + x.Seg - 1) / x.Seg * x.Cost := Int.mul_nonneg d0 b3
            have p1 : (x.C + x.Seg - 1) / x.Seg * x.Cost ≤ 2097152 * 1000 := Int.mul_le_mul d1 b4 b3 (by omega)
            rw [HWV.out] at KW HN wn1 wn2 n1 n2
            have f1 : (x.Mode == 1) = true := by simp [hmo]
            have hne : (x.Seg == 0) = false := by simp; omega
            have hne2 : (x.T == 0) = false := by simp; omega
            clear hmo hag HLV HWV
            go_wp2
            go_region
            all_goals
              have HB4 := Lib.hid (HSX.out.drewN 1)
              have HX5 := Lib.hid (HX3.out.drewN 1)
              go_wp2_with (fail)
              with_reducible refine (KW.out _).mono ?_
              rintro e w4 ⟨rfl, hb4⟩
              have HS4 := Lib.hid (HB4.out.tells hb4)
              have HX4 := Lib.hid (HX5.out.below hb4 HX5.out.lt)
              clear hb4 HB4 z0 z1 x0 x1 x2 x3 x4 x5 x6 x7 x8 x9 x10
              obtain ⟨z0, z1⟩ := HS4.out.cells
              have x1 : w4.cell? ⟨wr.heap.size, 1, none⟩ = some (.int .i64 x.T) := HX4.out.cell 1
              go_wp2
              go_roundw
              case rel => exact ⟨k + 1, by omega, by go_num, by rw [HN.out], HS4.out⟩
              case measure => simp [intOf]; omega
          · have HWV := Lib.hid (show wholeV x = x.C + x.Cost by unfold wholeV; rw [if_neg hmo])
            rw [HWV.out] at KW HN wn1 wn2 n1 n2
            have f1 : (x.Mode == 1) = false := by simp [hmo]
            have hne2 : (x.T == 0) = false := by simp; omega
            clear hmo hag HLV HWV
            have HB4 := Lib.hid (HSX.out)
            have HX5 := Lib.hid (HX3.out)
            go_wp2_with (fail)
            with_reducible refine (KW.out _).mono ?_
            rintro e w4 ⟨rfl, hb4⟩
            have HS4 := Lib.hid (HB4.out.tells hb4)
            have HX4 := Lib.hid (HX5.out.below hb4 HX5.out.lt)
            clear hb4 HB4 z0 z1 x0 x1 x2 x3 x4 x5 x6 x7 x8 x9 x10
            obtain ⟨z0, z1⟩ := HS4.out.cells
            have x1 : w4.cell? ⟨wr.heap.size, 1, none⟩ = some (.int .i64 x.T) := HX4.out.cell 1
            go_wp2
            go_roundw
            case rel => exact ⟨k + 1, by omega, by go_num, by rw [HN.out], HS4.out⟩
            case measure => simp [intOf]; omega
        · have t1 : decide ((k : Int) < (l.length : Int)) = false := by simp; omega
          obtain rfl : k = l.length := by omega
          have KL := Lib.hid (loads b hl30 HME.out (HT.out.below (Nat.le_refl _) HS.out.below))
          generalize loadsV l l.length = sv at KL
          go_wp2_with (fail)
          with_reducible refine KL.out.mono ?_
          rintro e w4 ⟨rfl, hb4⟩
          have HS4 := Lib.hid (HS.out.tells hb4)
          clear hb4 z0 z1
          obtain ⟨z0, z1⟩ := HS4.out.cells
          go_wp2
          go_ret
          exact ⟨rfl, HS4.out.below⟩
end Go.Proofs.Ytbebmmjnfdphbaa
