/- The walk of DelayApart. -/
import Derived.Test.YtllihehkceaibaaAp
namespace Go.Proofs.Ytllihehkceaibaa.InApart
open Go.RowKit

/-- So many asks were made. -/
def ApRel (w : World) (p g lb wb : Nat) (l : List Int) (N : Nat) (i : Value) (W : World) : Prop := ∃ (k : Nat) (X : World) (gs : List Gt), k ≤ N ∧ i = .int .i64 (k : Int) ∧ X = W ∧ gs.map distG = l ∧ Ap w p g k gs lb wb X

set_option maxRecDepth 100000 in
set_option maxHeartbeats 4000000 in
theorem core (l : List Int) (a : Option Addr) (cap : Nat) (s : List Ask) (a2 : Option Addr) (cap2 : Nat) (w : World) (hm : l.length ≤ maxLen) (ha : Ints w a cap l) (hm2 : s.length ≤ maxLen) (hs : Asks w a2 cap2 s) :
    Calls Try.prog 4 #[.slice a l.length cap, .slice a2 s.length cap2] w (Woke w) := by
  have HA := Lib.hid ha
  have HS := Lib.hid hs
  unfold maxLen at hm2
  clear ha hs
  go_enter Try.func4, Try.ntmps4
  go_wp2_with (fail)
  refine (awake _).mono ?_
  rintro e w1 ⟨rfl, hb1⟩
  have B1 := Lib.hid hb1
  clear hb1
  have KR := Lib.hid (rightAny (w := w1) hm (HA.out.below (Nat.le_refl _) B1.out))
  by_cases hno : rightB l = false ∨ 300 < s.length
  · by_cases hri : rightB l = false
    · rw [hri] at KR
      clear hno hri
      go_wp2_with (fail)
      with_reducible refine KR.out.mono ?_
      rintro e w2 ⟨rfl, rfl⟩
      go_wp2_with (fail)
      refine (awake _).mono ?_
      rintro e w2 ⟨rfl, hb2⟩
      go_wp2
      go_ret
      exact ⟨rfl, B1.out.trans (hb2.mono B1.out.size)⟩
    · have hri' : rightB l = true := by simpa using hri
      have t1 : decide ((300 : Int) < (s.length : Int)) = true := decide_eq_true (by rcases hno with h | h <;> first | exact absurd h hri | omega)
      rw [hri'] at KR
      clear hno hri hri'
      go_wp2_with (fail)
      with_reducible refine KR.out.mono ?_
      rintro e w2 ⟨rfl, rfl⟩
      go_wp2_with (fail)
      refine (awake _).mono ?_
      rintro e w2 ⟨rfl, hb2⟩
      go_wp2
      go_ret
      exact ⟨rfl, B1.out.trans (hb2.mono B1.out.size)⟩
  · have hri : rightB l = true := by
      by_cases h : rightB l = false
      · exact absurd (.inl h) hno
      · simpa using h
    have t1 : decide ((300 : Int) < (s.length : Int)) = false := decide_eq_false (by omega)
    have hs2 : s.length ≤ 300 := by omega
    obtain ⟨hd, l1, l2⟩ := rightB_yes.1 hri
    have HD := Lib.hid hd
    rw [hri] at KR
    have KN := Lib.hid (fun W (hb : Below w.heap.size w W) => has_new (w0 := w) (HA.out.below (Nat.le_refl _) hb) hb HD.out l1 l2)
    clear hno hri hd
    go_wp2_with (fail)
    with_reducible refine KR.out.mono ?_
    rintro e w2 ⟨rfl, rfl⟩
    clear KR
    have MI := make_ints l.length (by omega)
    have MB := make_bools l.length (by omega)
    go_wp2_with (fail)
    refine (KN.out _ B1.out).mono ?_
    rintro e w3 ⟨p, g, rfl, h3, -, -, -⟩
    have H3 := Lib.hid (Ap.made h3)
    clear h3 KN
    go_wp2
    clear MI MB
    generalize w3.heap.size = lb at H3 ⊢
    obtain ⟨wb, hwb⟩ : ∃ wb, wb = lb + 1 := ⟨_, rfl⟩
    rw [← hwb] at H3 ⊢
    clear hwb
    go_loopw [9] (fun i W => ApRel w p g lb wb l s.length i W) (fun i _ => s.length - (intOf i).toNat)
    case atStart => exact ⟨0, _, _, by omega, rfl, rfl, dist_fresh l, H3.out⟩
    case round =>
      obtain ⟨k, X, gs, hk, rfl, rfl, hdist, hh⟩ := hrel
      have H4 := Lib.hid hh
      have HDI := Lib.hid hdist
      clear hh hdist H3
      by_cases hlt : k < s.length
      · have t4 : decide ((k : Int) < (s.length : Int)) = true := by simp; omega
        have hx : s[k]? = some s[k] := List.getElem?_eq_getElem hlt
        obtain ⟨b, off, rfl, hbl, hc⟩ := HS.out.at_ hx
        obtain ⟨c0, c1⟩ := hc _ H4.out.has.below
        clear hx hc
        generalize s[k] = y at c0 c1
        obtain ⟨y0, y1⟩ := y
        simp only at c0 c1
        have i1 : (0 : Int) ≤ (k : Int) := by omega
        have i2 : (k : Int) < (s.length : Int) := by omega
        have HN := Lib.hid (below_new X (.cells #[.int .i64 y0, .int .i64 y1] 31))
        by_cases hout : y0 < 0 ∨ (l.length : Int) ≤ y0 ∨ y1 < 0 ∨ 1099511627776 < y1
        · have hfour := ask_out hout
          have HFIN := Lib.hid ((H4.out.tells HN.out).more (show k ≤ k + 1 by omega))
          clear hout
          rcases hfour with u1 | ⟨u1, u2⟩ | ⟨u1, u2, u3⟩ | ⟨u1, u2, u3, u4⟩
          all_goals
            go_wp2
            go_roundw
            case rel => exact ⟨k + 1, _, gs, by omega, by go_num, rfl, HDI.out, HFIN.out⟩
            case measure => simp [intOf]; omega
        · have u1 : decide (y0 < 0) = false := decide_eq_false (by omega)
          have u2 : decide ((l.length : Int) ≤ y0) = false := decide_eq_false (by omega)
          have u3 : decide (y1 < 0) = false := decide_eq_false (by omega)
          have u4 : decide (1099511627776 < y1) = false := decide_eq_false (by omega)
          have q1 : 0 ≤ y1 := by omega
          have q2 : y1 ≤ 1099511627776 := by omega
          obtain ⟨j, rfl⟩ : ∃ j : Nat, y0 = (j : Int) := ⟨y0.toNat, by omega⟩
          have hjl : j < l.length := by omega
          clear hout
          have HL1 := Lib.hid (Lies.made X 31 #[.int .i64 (j : Int), .int .i64 y1])
          have H5 := Lib.hid (H4.out.tells HN.out)
          obtain ⟨x, hx⟩ : ∃ x, gs[j]? = some x := ⟨gs[j]'(by have := dist_len HDI.out; omega), List.getElem?_eq_getElem _⟩
          have HX := Lib.hid hx
          have HR := Lib.hid (H4.out.has.grd.ok _ (List.mem_of_getElem? hx))
          have HY := Lib.hid (dist_at HDI.out hx)
          have HGL := Lib.hid H4.out.has.grd.glt
          have H4L := Lib.hid (show lb < X.heap.size ∧ wb < X.heap.size from ⟨H4.out.last.lt, H4.out.was.lt⟩)
          have HLN := Lib.hid (dist_len HDI.out)
          obtain ⟨e1, e2⟩ := go_at hx y1
          rw [if_neg (by omega)] at e1 e2
          have hopen : openG x = if x.2.2 = 0 then 0 else x.2.1 + x.1 := rfl
          have KG := has_go (j : Int) y1 H5.out.has (by omega)
          have HDG := Lib.hid ((dist_go gs (j : Int) y1).trans HDI.out)
          obtain ⟨b3, off3, ea, hbl3, hc3⟩ := HA.out.at_ HY.out
          have HC3 := Lib.hid hc3
          subst ea
          clear hx hc3 HN H4
          have r1 := HR.out.a1
          have r2 := HR.out.a2
          have r3 := HR.out.t1
          have r4 := HR.out.t2
          have r5 := HR.out.c1
          have j1 : (0 : Int) ≤ (j : Int) := by omega
          have j2 : (j : Int) < (l.length : Int) := by omega
          by_cases hfar : y1 < openG x
          · rw [if_pos hfar] at e1 e2
            rw [e1, e2] at KG
            rw [e2] at HDG
            have HKG := Lib.hid KG
            have hz : ¬ x.2.2 = 0 := fun h => by rw [hopen, if_pos h] at hfar; omega
            rw [hopen, if_neg hz] at hfar
            have HWS := Lib.hid (show wasV gs j = true by rw [was_at HX.out, decide_eq_false hz]; rfl)
            have HLS := Lib.hid (last_at HX.out)
            have t5 : decide (x.1 ≤ y1 - x.2.1) = false := decide_eq_false (by omega)
            clear KG e1 e2 hopen
            go_wp2_with (fail)
            with_reducible refine HKG.out.mono ?_
            rintro e w5 ⟨rfl, h5, ht5⟩
            have H6 := Lib.hid (H5.out.stay h5 ht5)
            have HL2 := Lib.hid (HL1.out.turns ht5 (fun h => by have := HGL.out; omega))
            clear h5 ht5 HKG
            have d0 : w5.cell? ⟨X.heap.size, 0, none⟩ = some (.int .i64 (j : Int)) := HL2.out.cell 0
            have d1 : w5.cell? ⟨X.heap.size, 1, none⟩ = some (.int .i64 y1) := HL2.out.cell 1
            have d2 := H6.out.was.cell (i := j) (by rw [HLN.out]; exact hjl)
            have d3 := H6.out.last.cell (i := j) (by rw [HLN.out]; exact hjl)
            have d4 := HC3.out _ H6.out.has.below
            rw [HWS.out] at d2
            rw [HLS.out] at d3
            have HFIN := H6
            clear HX HR HY HWS HLS
            obtain ⟨xa, xt, xc⟩ := x
            simp only at r1 r2 r3 r4 r5 t5 d3 d4 hfar hz
            have HFN : Hid (∀ m, Ap w p g (k + 1) gs lb wb (w5.drewN m)) := Lib.hid (fun m => HFIN.out.drewN m)
            clear H5 H6 HFIN
            go_wp2
            go_quiet (fail)
            go_wp2
            go_roundw
            case rel => exact ⟨k + 1, _, gs, by omega, by go_num, rfl, HDI.out, HFN.out _⟩
            case measure => simp [intOf]; omega
          · rw [if_neg hfar] at e1 e2
            rw [e1, e2] at KG
            rw [e2] at HDG
            have HKG := Lib.hid KG
            have HLS := Lib.hid (last_at HX.out)
            clear KG e1 e2
            by_cases hz : x.2.2 = 0
            · have HWS := Lib.hid (show wasV gs j = false by rw [was_at HX.out, decide_eq_true hz]; rfl)
              clear hopen hfar
              go_wp2_with (fail)
              with_reducible refine HKG.out.mono ?_
              rintro e w5 ⟨rfl, h5, ht5⟩
              have HT5 := Lib.hid ht5
              have H5B := Lib.hid h5
              have HL2 := Lib.hid (HL1.out.turns ht5 (fun h => by have := HGL.out; omega))
              clear h5 ht5 HKG
              have d0 : w5.cell? ⟨X.heap.size, 0, none⟩ = some (.int .i64 (j : Int)) := HL2.out.cell 0
              have d1 : w5.cell? ⟨X.heap.size, 1, none⟩ = some (.int .i64 y1) := HL2.out.cell 1
              have d2 := (H5.out.was.turns HT5.out H5.out.f4).cell (i := j) (by rw [HLN.out]; exact hjl)
              have d3 := (H5.out.last.turns HT5.out H5.out.f2).cell (i := j) (by rw [HLN.out]; exact hjl)
              have d4 := HC3.out _ H5B.out.below
              have f2 := (H5.out.was.turns HT5.out H5.out.f4).thawed
              have f3 := (H5.out.last.turns HT5.out H5.out.f2).thawed
              have n1 := H5.out.f0
              have n2 : X.heap.size ≠ lb := by have := H4L.out; omega
              rw [HWS.out] at d2
              rw [HLS.out] at d3
              have HFN : Hid (∀ m, Ap w p g (k + 1) (gs.set j (pass x y1)) lb wb ((((w5.drewN m).setCell ⟨lb, j, none⟩ (.int .i64 y1)).setCell ⟨wb, j, none⟩ (.bool true)))) := Lib.hid (fun m => H5.out.step HX.out r5 (H5B.out.drewN m) (HT5.out.drewN m))
              clear HX HR HY HWS HLS
              generalize gs.set j (pass x y1) = gs2 at HFN HDG
              obtain ⟨xa, xt, xc⟩ := x
              simp only at r1 r2 r3 r4 r5 d3 d4 hz
              clear H5 H5B HT5
              go_wp2
              go_quiet (fail)
              go_wp2
              go_roundw
              case rel => exact ⟨k + 1, _, gs2, by omega, by go_num, rfl, HDG.out, HFN.out _⟩
              case measure => simp [intOf]; omega
            · rw [hopen, if_neg hz] at hfar
              have HWS := Lib.hid (show wasV gs j = true by rw [was_at HX.out, decide_eq_false hz]; rfl)
              have t5 : decide (x.1 ≤ y1 - x.2.1) = true := decide_eq_true (by omega)
              clear hopen
              go_wp2_with (fail)
              with_reducible refine HKG.out.mono ?_
              rintro e w5 ⟨rfl, h5, ht5⟩
              have HT5 := Lib.hid ht5
              have H5B := Lib.hid h5
              have HL2 := Lib.hid (HL1.out.turns ht5 (fun h => by have := HGL.out; omega))
              clear h5 ht5 HKG
              have d0 : w5.cell? ⟨X.heap.size, 0, none⟩ = some (.int .i64 (j : Int)) := HL2.out.cell 0
              have d1 : w5.cell? ⟨X.heap.size, 1, none⟩ = some (.int .i64 y1) := HL2.out.cell 1
              have d2 := (H5.out.was.turns HT5.out H5.out.f4).cell (i := j) (by rw [HLN.out]; exact hjl)
              have d3 := (H5.out.last.turns HT5.out H5.out.f2).cell (i := j) (by rw [HLN.out]; exact hjl)
              have d4 := HC3.out _ H5B.out.below
              have f2 := (H5.out.was.turns HT5.out H5.out.f4).thawed
              have f3 := (H5.out.last.turns HT5.out H5.out.f2).thawed
              have n1 := H5.out.f0
              have n2 : X.heap.size ≠ lb := by have := H4L.out; omega
              rw [HWS.out] at d2
              rw [HLS.out] at d3
              have HFN : Hid (∀ m, Ap w p g (k + 1) (gs.set j (pass x y1)) lb wb ((((w5.drewN m).setCell ⟨lb, j, none⟩ (.int .i64 y1)).setCell ⟨wb, j, none⟩ (.bool true)))) := Lib.hid (fun m => H5.out.step HX.out r5 (H5B.out.drewN m) (HT5.out.drewN m))
              clear HX HR HY HWS HLS
              generalize gs.set j (pass x y1) = gs2 at HFN HDG
              obtain ⟨xa, xt, xc⟩ := x
              simp only at r1 r2 r3 r4 r5 d3 d4 hz t5 hfar
              clear H5 H5B HT5
              go_wp2
              go_quiet (fail)
              go_wp2
              go_roundw
              case rel => exact ⟨k + 1, _, gs2, by omega, by go_num, rfl, HDG.out, HFN.out _⟩
              case measure => simp [intOf]; omega
      · have t4 : decide ((k : Int) < (s.length : Int)) = false := by simp; omega
        have t4' : decide (k < s.length) = false := by simp; omega
        go_wp2
        go_ret
        exact ⟨rfl, H4.out.has.below⟩
end Go.Proofs.Ytllihehkceaibaa.InApart
