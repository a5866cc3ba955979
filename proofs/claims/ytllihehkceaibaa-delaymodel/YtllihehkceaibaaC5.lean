/- The walk of DelayModel. -/
import Derived.Test.YtllihehkceaibaaMo
import Derived.Deep.DeepCutAuto
import Derived.BigRegion
namespace Go.Proofs.Ytllihehkceaibaa.InModel
open Go.RowKit

/-- So many asks were made. -/
def MoRel (w : World) (p g ob cb : Nat) (l : List Int) (N : Nat) (i : Value) (W : World) : Prop := ∃ (k : Nat) (X : World) (gs : List Gt), k ≤ N ∧ i = .int .i64 (k : Int) ∧ X = W ∧ gs.map distG = l ∧ Mo w p g k gs gs ob cb X
/-- So many gates were looked at. -/
def InRel (w : World) (p g K ob cb : Nat) (gs : List Gt) (i : Value) (W : World) : Prop := ∃ (q : Nat) (X : World), q ≤ gs.length ∧ i = .int .i64 (q : Int) ∧ X = W ∧ Mo w p g K gs gs ob cb X

set_option maxRecDepth 100000 in
set_option maxHeartbeats 8000000 in
theorem core (l : List Int) (a : Option Addr) (cap : Nat) (s : List Ask) (a2 : Option Addr) (cap2 : Nat) (w : World) (hm : l.length ≤ maxLen) (ha : Ints w a cap l) (hm2 : s.length ≤ maxLen) (hs : Asks w a2 cap2 s) :
    Calls Try.prog 3 #[.slice a l.length cap, .slice a2 s.length cap2] w (Woke w) := by
  have HA := Lib.hid ha
  have HS := Lib.hid hs
  have HM := Lib.hid hm
  unfold maxLen at hm hm2
  clear ha hs
  go_enter Try.func3, Try.ntmps3
  go_wp2_with (fail)
  refine (awake _).mono ?_
  rintro e w1 ⟨rfl, hb1⟩
  have B1 := Lib.hid hb1
  clear hb1
  by_cases hno : 40 < l.length ∨ 300 < s.length
  · have htwo : decide ((40 : Int) < (l.length : Int)) = true ∨ (decide ((40 : Int) < (l.length : Int)) = false ∧ decide ((300 : Int) < (s.length : Int)) = true) := by
      by_cases h1 : 40 < l.length
      · exact .inl (decide_eq_true (by omega))
      · exact .inr ⟨decide_eq_false (by omega), decide_eq_true (by omega)⟩
    clear hno
    rcases htwo with t1 | ⟨t1, t2⟩
    all_goals
      go_wp2_with (fail)
      refine (awake _).mono ?_
      rintro e w2 ⟨rfl, hb2⟩
      go_wp2
      go_ret
      exact ⟨rfl, B1.out.trans (hb2.mono B1.out.size)⟩
  · have t1 : decide ((40 : Int) < (l.length : Int)) = false := decide_eq_false (by omega)
    have t2 : decide ((300 : Int) < (s.length : Int)) = false := decide_eq_false (by omega)
    have l40 : l.length ≤ 40 := by omega
    have hs2 : s.length ≤ 300 := by omega
    have KN := Lib.hid (newAny (w := w1) HM.out (HA.out.below (Nat.le_refl _) B1.out))
    clear hno
    go_wp2_with (fail)
    refine KN.out.mono ?_
    intro e w3 hnews
    have B3 := Lib.hid (B1.out.trans (hnews.below.mono B1.out.size))
    have KR := Lib.hid (rightAny (w := w3) HM.out (HA.out.below (Nat.le_refl _) B3.out))
    by_cases hri : rightB l = false
    · obtain rfl := hnews.no (rightB_no.1 hri)
      rw [hri] at KR
      clear hri hnews
      go_wp2_with (fail)
      with_reducible refine KR.out.mono ?_
      rintro e w4 ⟨rfl, rfl⟩
      go_wp2
      go_ret
      exact ⟨rfl, B3.out⟩
    · have hri' : rightB l = true := by simpa using hri
      obtain ⟨hd, l1, l2⟩ := rightB_yes.1 hri'
      rw [hri'] at KR
      obtain ⟨p, g, rfl, hg, hp, hgg⟩ := hnews.yes hd l1 l2
      have h3 : Has w p g 0 (l.map freshG) w3 := ⟨hg, by have := B1.out.size; omega, by have := B1.out.size; omega, B3.out⟩
      have H3 := Lib.hid (Mo.made h3)
      have MI := make_ints l.length (by omega)
      clear hri hri' hd hnews hg hp hgg h3 KN
      go_wp2_with (fail)
      with_reducible refine KR.out.mono ?_
      rintro e w4 ⟨rfl, rfl⟩
      go_wp2
      clear MI KR B3
      generalize w3.heap.size = ob at H3 ⊢
      obtain ⟨cb, hcb⟩ : ∃ cb, cb = ob + 1 := ⟨_, rfl⟩
      rw [← hcb] at H3 ⊢
      clear hcb
      go_loopw [9] (fun i W => MoRel w p g ob cb l s.length i W) (fun i _ => s.length - (intOf i).toNat)
      case atStart => exact ⟨0, _, _, by omega, rfl, rfl, dist_fresh l, H3.out⟩
      case round =>
        obtain ⟨k, X, gs, hk, rfl, rfl, hdist, hh⟩ := hrel
        have H4 := Lib.hid hh
        have HDI := Lib.hid hdist
        clear hh hdist H3
        by_cases hlt : k < s.length
        · have t4 : decide ((k : Int) < (s.length : Int)) = true := by simp; omega
          have hx : s[k]? = some s[k] := List.getElem?_eq_getElem hlt
          obtain ⟨b, off, rfl, hbl, hc⟩ := HS.out.at_ hx
          obtain ⟨c0, c1⟩ := hc _ H4.out.has.below
          clear hx hc
          generalize s[k] = y at c0 c1
          obtain ⟨y0, y1⟩ := y
          simp only at c0 c1
          have i1 : (0 : Int) ≤ (k : Int) := by omega
          have i2 : (k : Int) < (s.length : Int) := by omega
          have HL1 := Lib.hid (Lies.made X 31 #[.int .i64 y0, .int .i64 y1])
          have H5 := Lib.hid (H4.out.tells (below_new X (.cells #[.int .i64 y0, .int .i64 y1] 31)))
          have HOL := Lib.hid (show g ≠ X.heap.size ∧ ob ≠ X.heap.size ∧ cb ≠ X.heap.size from ⟨by have := H4.out.has.grd.glt; omega, by have := H4.out.op.lt; omega, by have := H4.out.ct.lt; omega⟩)
          have HLN := Lib.hid (dist_len HDI.out)
          clear H4
          go_upto_region 14 with fail
          generalize X.alloc (.cells #[.int .i64 y0, .int .i64 y1] 31) = W1 at HL1 H5 ⊢
          generalize X.heap.size = ab at HL1 HOL ⊢
          clear c0 c1
          have d0 : W1.cell? ⟨ab, 0, none⟩ = some (.int .i64 y0) := HL1.out.cell 0
          have d1 : W1.cell? ⟨ab, 1, none⟩ = some (.int .i64 y1) := HL1.out.cell 1
          by_cases hout : y0 < 0 ∨ (l.length : Int) ≤ y0 ∨ y1 < 0 ∨ 1099511627776 < y1
          · have hfour := ask_out hout
            have hgo : goV gs y0 y1 = 1 ∧ goS gs y0 y1 = gs := by
              by_cases h1 : y0 < 0 ∨ (gs.length : Int) ≤ y0
              · exact go_out h1 y1
              · obtain ⟨j, rfl⟩ : ∃ j : Nat, y0 = (j : Int) := ⟨y0.toNat, by omega⟩
                obtain ⟨x, hx⟩ : ∃ x, gs[j]? = some x := ⟨gs[j]'(by omega), List.getElem?_eq_getElem _⟩
                obtain ⟨e1, e2⟩ := go_at hx y1
                have := HLN.out
                rw [if_pos (by omega)] at e1 e2
                exact ⟨e1, e2⟩
            have KG := has_go y0 y1 H5.out.has (by omega)
            rw [hgo.1, hgo.2] at KG
            have HKG := Lib.hid KG
            clear hout hgo KG
            rcases hfour with u1 | ⟨u1, u2⟩ | ⟨u1, u2, u3⟩ | ⟨u1, u2, u3, u4⟩
            all_goals
              go_wp2_with (fail)
              with_reducible refine HKG.out.mono ?_
              rintro e w5 ⟨rfl, h5, ht5⟩
              have H6 := Lib.hid (H5.out.go rfl h5 ht5)
              have HDF := HDI
              clear h5 ht5
              clear HOL
              go_wp2
              go_loopw [12] (fun i W => InRel w p g (k + 1) ob cb gs i W) (fun i _ => (gs).length - (intOf i).toNat)
              case atStart => exact ⟨0, _, by omega, rfl, rfl, H6.out⟩
              case round =>
                obtain ⟨q, Y, hq, rfl, rfl, hh⟩ := hrel
                have H7 := Lib.hid hh
                clear hh H6
                have hgl1 : (gs).length ≤ l.length := Nat.le_of_eq (dist_len HDF.out)
                have hgl2 : l.length ≤ (gs).length := Nat.le_of_eq (dist_len HDF.out).symm
                by_cases hql : q < l.length
                · have t7 : decide ((q : Int) < (l.length : Int)) = true := by simp; omega
                  obtain ⟨z, hz⟩ : ∃ z, (gs)[q]? = some z := ⟨(gs)[q]'(by omega), List.getElem?_eq_getElem _⟩
                  obtain ⟨o1, o2, o3⟩ := open_at hz
                  have KO := openOf (q : Int) H7.out.has.grd
                  rw [o1, o2] at KO
                  have HKO := Lib.hid KO
                  have HO1 := Lib.hid o1
                  have HO3 := Lib.hid o3
                  have HQ := Lib.hid (show q < (gs).length by omega)
                  have k1 : (0 : Int) ≤ (q : Int) := by omega
                  have k2 : (q : Int) < (l.length : Int) := by omega
                  clear o1 o2 o3 KO hz
                  go_wp2_with (fail)
                  with_reducible refine HKO.out.mono ?_
                  rintro e w8 ⟨rfl, hb8⟩
                  have H8 := Lib.hid (H7.out.tells hb8)
                  clear hb8 H7 HKO
                  have e1 := H8.out.op.cell HQ.out
                  have e2 := H8.out.ct.cell HQ.out
                  rw [HO1.out] at e1
                  rw [HO3.out] at e2
                  have KC : Hid (∀ m, Calls Try.prog 13 #[.pointer (some ⟨p, 0, none⟩), .int .i64 (q : Int)] (w8.drewN m) (Says (.int .i64 z.2.2) (w8.drewN m))) := Lib.hid (fun m => by
                    have := countOf (q : Int) (H8.out.drewN m).has.grd
                    rw [HO3.out] at this
                    exact this)
                  have HFN : Hid (∀ m, Mo w p g (k + 1) gs gs ob cb (w8.drewN m)) := Lib.hid (fun m => H8.out.drewN m)
                  clear HO1 HO3 HQ H8
                  generalize z.2.2 = zc at KC e2
                  generalize openG z = zo at e1
                  go_wp2
                  go_quiet (exact (KC.out _).mono fun _ _ h => ⟨h.1, _, h.2.symm⟩)
                  go_wp2
                  go_roundw
                  case rel => exact ⟨q + 1, _, by omega, by go_num, rfl, HFN.out _⟩
                  case measure => simp [intOf]; omega
                · have t7 : decide ((q : Int) < (l.length : Int)) = false := by simp; omega
                  have t7' : decide (q < l.length) = false := by simp; omega
                  go_wp2
                  go_roundw
                  case rel => exact ⟨k + 1, _, gs, by omega, by go_num, rfl, HDF.out, H7.out⟩
                  case measure => simp [intOf]; omega
          · have u1 : decide (y0 < 0) = false := decide_eq_false (by omega)
            have u2 : decide ((l.length : Int) ≤ y0) = false := decide_eq_false (by omega)
            have u3 : decide (y1 < 0) = false := decide_eq_false (by omega)
            have u4 : decide (1099511627776 < y1) = false := decide_eq_false (by omega)
            have q1 : 0 ≤ y1 := by omega
            have q2 : y1 ≤ 1099511627776 := by omega
            obtain ⟨j, rfl⟩ : ∃ j : Nat, y0 = (j : Int) := ⟨y0.toNat, by omega⟩
            have hjl : j < l.length := by omega
            clear hout
            obtain ⟨x, hx⟩ : ∃ x, gs[j]? = some x := ⟨gs[j]'(by have := HLN.out; omega), List.getElem?_eq_getElem _⟩
            have HX := Lib.hid hx
            have HR := Lib.hid (H5.out.has.grd.ok _ (List.mem_of_getElem? hx))
            have HY := Lib.hid (dist_at HDI.out hx)
            obtain ⟨e1, e2⟩ := go_at hx y1
            rw [if_neg (by omega)] at e1 e2
            have HDG := (dist_go gs (j : Int) y1).trans HDI.out
            obtain ⟨b3, off3, ea, hbl3, hc3⟩ := HA.out.at_ HY.out
            have HC3 := Lib.hid hc3
            have HO1 := Lib.hid (open_at hx).1
            have HO2 := Lib.hid (open_at hx).2.2
            have HE := Lib.hid (And.intro e1 e2)
            subst ea
            clear hx hc3 e1 e2
            have r1 := HR.out.a1
            have r2 := HR.out.a2
            have r5 := HR.out.c1
            have r6 := HR.out.c2
            have j1 : (0 : Int) ≤ (j : Int) := by omega
            have j2 : (j : Int) < (l.length : Int) := by omega
            have d2 := H5.out.op.cell (i := j) (by rw [HLN.out]; exact hjl)
            have d3 := H5.out.ct.cell (i := j) (by rw [HLN.out]; exact hjl)
            have d4 := HC3.out _ H5.out.has.below
            have f2 := H5.out.op.thawed
            have f3 := H5.out.ct.thawed
            have d2l := H5.out.op.lt
            have d3l := H5.out.ct.lt
            have n1 := H5.out.f0
            have n1' : cb ≠ ob := fun h => n1 h.symm
            obtain ⟨-, n4, n5⟩ := HOL.out
            have n2 : ab ≠ ob := fun h => n4 h.symm
            have n3 : ab ≠ cb := fun h => n5 h.symm
            rw [HO1.out] at d2
            rw [HO2.out] at d3
            by_cases hearly : y1 < openG x
            · have hee := HE.out
              rw [if_pos hearly, if_pos hearly] at hee
              have t6 : decide (y1 < openG x) = true := decide_eq_true hearly
              have KG : Hid (∀ m, Calls Try.prog 11 #[.pointer (some ⟨p, 0, none⟩), .int .i64 (j : Int), .int .i64 y1] (W1.drewN m) (Then (.int .i64 6) w p g (k + 1) gs (W1.drewN m))) := Lib.hid (fun m => by
                have := has_go (j : Int) y1 (H5.out.has.drewN m) (by omega)
                rw [hee.1, hee.2] at this
                exact this)
              have HG6 : Hid (∀ m, Mo w p g k gs gs ob cb (W1.drewN m)) := Lib.hid (fun m => H5.out.drewN m)
              clear hee hearly HE HDG HX HR HY HO1 HO2
              generalize openG x = o at d2 t6
              obtain ⟨xa, xt, xc⟩ := x
              simp only at r1 r2 r5 r6 d3 d4
              clear H5 HL1
              go_wp2
              go_quiet (fail)
              go_wp2_with (fail)
              with_reducible refine (KG.out _).mono ?_
              rintro e w5 ⟨rfl, h5, ht5⟩
              have H6 := Lib.hid ((HG6.out _).go rfl h5 ht5)
              have HDF := HDI
              clear h5 ht5 HG6 KG
              clear HOL
              go_wp2
              go_loopw [12] (fun i W => InRel w p g (k + 1) ob cb gs i W) (fun i _ => (gs).length - (intOf i).toNat)
              case atStart => exact ⟨0, _, by omega, rfl, rfl, H6.out⟩
              case round =>
                obtain ⟨q, Y, hq, rfl, rfl, hh⟩ := hrel
                have H7 := Lib.hid hh
                clear hh H6
                have hgl1 : (gs).length ≤ l.length := Nat.le_of_eq (dist_len HDF.out)
                have hgl2 : l.length ≤ (gs).length := Nat.le_of_eq (dist_len HDF.out).symm
                by_cases hql : q < l.length
                · have t7 : decide ((q : Int) < (l.length : Int)) = true := by simp; omega
                  obtain ⟨z, hz⟩ : ∃ z, (gs)[q]? = some z := ⟨(gs)[q]'(by omega), List.getElem?_eq_getElem _⟩
                  obtain ⟨o1, o2, o3⟩ := open_at hz
                  have KO := openOf (q : Int) H7.out.has.grd
                  rw [o1, o2] at KO
                  have HKO := Lib.hid KO
                  have HO1 := Lib.hid o1
                  have HO3 := Lib.hid o3
                  have HQ := Lib.hid (show q < (gs).length by omega)
                  have k1 : (0 : Int) ≤ (q : Int) := by omega
                  have k2 : (q : Int) < (l.length : Int) := by omega
                  clear o1 o2 o3 KO hz
                  go_wp2_with (fail)
                  with_reducible refine HKO.out.mono ?_
                  rintro e w8 ⟨rfl, hb8⟩
                  have H8 := Lib.hid (H7.out.tells hb8)
                  clear hb8 H7 HKO
                  have e1 := H8.out.op.cell HQ.out
                  have e2 := H8.out.ct.cell HQ.out
                  rw [HO1.out] at e1
                  rw [HO3.out] at e2
                  have KC : Hid (∀ m, Calls Try.prog 13 #[.pointer (some ⟨p, 0, none⟩), .int .i64 (q : Int)] (w8.drewN m) (Says (.int .i64 z.2.2) (w8.drewN m))) := Lib.hid (fun m => by
                    have := countOf (q : Int) (H8.out.drewN m).has.grd
                    rw [HO3.out] at this
                    exact this)
                  have HFN : Hid (∀ m, Mo w p g (k + 1) gs gs ob cb (w8.drewN m)) := Lib.hid (fun m => H8.out.drewN m)
                  clear HO1 HO3 HQ H8
                  generalize z.2.2 = zc at KC e2
                  generalize openG z = zo at e1
                  go_wp2
                  go_quiet (exact (KC.out _).mono fun _ _ h => ⟨h.1, _, h.2.symm⟩)
                  go_wp2
                  go_roundw
                  case rel => exact ⟨q + 1, _, by omega, by go_num, rfl, HFN.out _⟩
                  case measure => simp [intOf]; omega
                · have t7 : decide ((q : Int) < (l.length : Int)) = false := by simp; omega
                  have t7' : decide (q < l.length) = false := by simp; omega
                  go_wp2
                  go_roundw
                  case rel => exact ⟨k + 1, _, gs, by omega, by go_num, rfl, HDF.out, H7.out⟩
                  case measure => simp [intOf]; omega
            · have hee := HE.out
              rw [if_neg hearly, if_neg hearly] at hee
              have t6 : decide (y1 < openG x) = false := decide_eq_false hearly
              have hjg : j < gs.length := by rw [HLN.out]; exact hjl
              have HST : Hid (∀ m, Mo w p g k gs (gs.set j (pass x y1)) ob cb (((W1.drewN m).setCell ⟨ob, j, none⟩ (.int .i64 (y1 + x.1))).setCell ⟨cb, j, none⟩ (.int .i64 (x.2.2 + 1)))) := Lib.hid (fun m => (H5.out.drewN m).store2 (fun i _ => by rw [openV_set hjg, open_pass HR.out]) (fun i _ => by rw [countV_set hjg]; rfl))
              have KG : Hid (∀ W, Has w p g k gs W → Calls Try.prog 11 #[.pointer (some ⟨p, 0, none⟩), .int .i64 (j : Int), .int .i64 y1] W (Then (.int .i64 0) w p g (k + 1) (gs.set j (pass x y1)) W)) := Lib.hid (fun W h => by
                have := has_go (j : Int) y1 h (by omega)
                rw [hee.1, hee.2] at this
                exact this)
              rw [hee.2] at HDG
              have HDF := Lib.hid HDG
              have HSL := Lib.hid (show (gs.set j (pass x y1)).length = gs.length by simp)
              clear hee hearly HE HDG HX HR HY HO1 HO2
              generalize openG x = o at d2 t6
              generalize gs.set j (pass x y1) = gs2 at HST KG HDF HSL
              obtain ⟨xa, xt, xc⟩ := x
              simp only at r1 r2 r5 r6 d3 d4 HST
              clear H5 HL1
              go_wp2
              go_quiet (fail)
              go_wp2
              go_region
              go_wp2_with (fail)
              with_reducible refine (KG.out _ (HST.out _).has).mono ?_
              rintro e w5 ⟨rfl, h5, ht5⟩
              have H6 := Lib.hid ((HST.out _).go HSL.out h5 ht5)
              clear h5 ht5 HST KG
              clear HOL
              go_wp2
              go_loopw [12] (fun i W => InRel w p g (k + 1) ob cb gs2 i W) (fun i _ => (gs2).length - (intOf i).toNat)
              case atStart => exact ⟨0, _, by omega, rfl, rfl, H6.out⟩
              case round =>
                obtain ⟨q, Y, hq, rfl, rfl, hh⟩ := hrel
                have H7 := Lib.hid hh
                clear hh H6
                have hgl1 : (gs2).length ≤ l.length := Nat.le_of_eq (dist_len HDF.out)
                have hgl2 : l.length ≤ (gs2).length := Nat.le_of_eq (dist_len HDF.out).symm
                by_cases hql : q < l.length
                · have t7 : decide ((q : Int) < (l.length : Int)) = true := by simp; omega
                  obtain ⟨z, hz⟩ : ∃ z, (gs2)[q]? = some z := ⟨(gs2)[q]'(by omega), List.getElem?_eq_getElem _⟩
                  obtain ⟨o1, o2, o3⟩ := open_at hz
                  have KO := openOf (q : Int) H7.out.has.grd
                  rw [o1, o2] at KO
                  have HKO := Lib.hid KO
                  have HO1 := Lib.hid o1
                  have HO3 := Lib.hid o3
                  have HQ := Lib.hid (show q < (gs2).length by omega)
                  have k1 : (0 : Int) ≤ (q : Int) := by omega
                  have k2 : (q : Int) < (l.length : Int) := by omega
                  clear o1 o2 o3 KO hz
                  go_wp2_with (fail)
                  with_reducible refine HKO.out.mono ?_
                  rintro e w8 ⟨rfl, hb8⟩
                  have H8 := Lib.hid (H7.out.tells hb8)
                  clear hb8 H7 HKO
                  have e1 := H8.out.op.cell HQ.out
                  have e2 := H8.out.ct.cell HQ.out
                  rw [HO1.out] at e1
                  rw [HO3.out] at e2
                  have KC : Hid (∀ m, Calls Try.prog 13 #[.pointer (some ⟨p, 0, none⟩), .int .i64 (q : Int)] (w8.drewN m) (Says (.int .i64 z.2.2) (w8.drewN m))) := Lib.hid (fun m => by
                    have := countOf (q : Int) (H8.out.drewN m).has.grd
                    rw [HO3.out] at this
                    exact this)
                  have HFN : Hid (∀ m, Mo w p g (k + 1) gs2 gs2 ob cb (w8.drewN m)) := Lib.hid (fun m => H8.out.drewN m)
                  clear HO1 HO3 HQ H8
                  generalize z.2.2 = zc at KC e2
                  generalize openG z = zo at e1
                  go_wp2
                  go_quiet (exact (KC.out _).mono fun _ _ h => ⟨h.1, _, h.2.symm⟩)
                  go_wp2
                  go_roundw
                  case rel => exact ⟨q + 1, _, by omega, by go_num, rfl, HFN.out _⟩
                  case measure => simp [intOf]; omega
                · have t7 : decide ((q : Int) < (l.length : Int)) = false := by simp; omega
                  have t7' : decide (q < l.length) = false := by simp; omega
                  go_wp2
                  go_roundw
                  case rel => exact ⟨k + 1, _, gs2, by omega, by go_num, rfl, HDF.out, H7.out⟩
                  case measure => simp [intOf]; omega
        · have t4 : decide ((k : Int) < (s.length : Int)) = false := by simp; omega
          have t4' : decide (k < s.length) = false := by simp; omega
          have hgl := dist_len HDI.out
          obtain ⟨o1, o2, -⟩ := open_out (gs := gs) (i := (l.length : Int)) (.inr (by omega))
          obtain ⟨-, -, o3⟩ := open_out (gs := gs) (i := -1) (.inl (by omega))
          have KO := openOf (l.length : Int) H4.out.has.grd
          rw [o1, o2] at KO
          have HKO := Lib.hid KO
          have HO3 := Lib.hid o3
          clear o1 o2 o3 KO hgl
          go_wp2_with (fail)
          with_reducible refine HKO.out.mono ?_
          rintro e w8 ⟨rfl, hb8⟩
          have H8 := Lib.hid (H4.out.tells hb8)
          clear hb8 HKO
          have KC := countOf (-1) H8.out.has.grd
          rw [HO3.out] at KC
          have HKC := Lib.hid KC
          clear KC
          go_wp2_with (fail)
          with_reducible refine HKC.out.mono ?_
          rintro e w9 ⟨rfl, rfl⟩
          go_wp2
          go_ret
          exact ⟨rfl, H8.out.has.below⟩
end Go.Proofs.Ytllihehkceaibaa.InModel
