/- The walk of the statement on what stays. -/
import Derived.Test.YtklnokhabomnfaaAw
import Derived.Test.YtklnokhabomnfaaVk
import Derived.Test.YtklnokhabomnfaaSa
import Derived.Test.YtklnokhabomnfaaRx
import Derived.Deep.RegionHeld3
import Derived.Deep.DeepCutAuto
namespace Go.Proofs.Ytklnokhabomnfaa
open Go.RowKit

def WipeRel (X : World) (D t : Nat) (ok : Bool) (late : Int) (n : Nat) (R : List Int) (B : Nat) (v : Value) (A : Option Addr) (c : Nat) (i : Value) (W : World) : Prop :=
  ∃ (k : Nat) (R' : List Int), k ≤ n ∧ i = .int .i64 (k : Int) ∧ Below X.heap.size X W ∧ Lies W D 29 #[.bool ok, .int .i64 late, .slice (some ⟨t, 0, none⟩) n n] ∧ Row W t R' ∧ R'.length = n ∧ Newer B v n R A c W
set_option maxRecDepth 100000 in
set_option maxHeartbeats 16000000 in
theorem coreKeeps (b : Int) (l : List Tk) (a : Option Addr) (cap : Nat) (g : Int) (g0 : 0 ≤ g) (g1 : g ≤ 4294967295) {w : World} (hm : l.length ≤ maxLen) (ht : Tasks w a cap l) :
    Calls Try.prog 6 #[.agg #[.int .i64 b, .slice a l.length cap], .int .u32 g] w (Woke w) := by
  have KA := Lib.hid (fun W => awake W)
  have HT := Lib.hid ht
  have HB0 := Lib.hid (SetBox.made w b a l.length cap)
  clear ht
  go_enter Try.func6, Try.ntmps6
  go_wp2_with (fail)
  with_reducible refine (KA.out _).mono ?_
  rintro e w1 ⟨rfl, hb1⟩
  have HB1 := Lib.hid (HB0.out.tells hb1)
  have KF := Lib.hid (small b l a cap hm (HT.out.below (Nat.le_refl _) HB1.out.below))
  clear hb1 HB0
  obtain ⟨s0, s1⟩ := HB1.out.cells
  go_wp2_with (fail)
  with_reducible refine KF.out.mono ?_
  rintro e w2 ⟨r, rfl, hb2, hf⟩
  have HB2 := Lib.hid (HB1.out.tells hb2)
  have KR := Lib.hid (refRight b l a cap hm (HT.out.below (Nat.le_refl _) HB2.out.below))
  clear hb2 s0 s1 HB1 KF
  obtain ⟨s0, s1⟩ := HB2.out.cells
  cases r
  · clear hf
    go_wp2_with (fail)
    with_reducible refine (KA.out _).mono ?_
    rintro e w9 ⟨rfl, hb9⟩
    have HB9 := Lib.hid (HB2.out.tells hb9)
    clear hb9
    go_wp2
    go_ret
    exact ⟨rfl, HB9.out.below⟩
  · have HF := Lib.hid (hf rfl)
    clear hf
    have hG : ((whyF b l).1 == 0) = true → (whyF b l).1 = 0 := fun h => eq_of_beq h
    generalize ((whyF b l).1 == 0) = rr at KR hG
    go_wp2_with (fail)
    with_reducible refine KR.out.mono ?_
    rintro e w3 ⟨rfl, hb3⟩
    have HB3 := Lib.hid (HB2.out.tells hb3)
    clear hb3 s0 s1 HB2 KR
    obtain ⟨s0, s1⟩ := HB3.out.cells
    cases rr
    · clear hG
      go_wp2_with (fail)
      with_reducible refine (KA.out _).mono ?_
      rintro e w9 ⟨rfl, hb9⟩
      have HB9 := Lib.hid (HB3.out.tells hb9)
      clear hb9
      go_wp2
      go_ret
      exact ⟨rfl, HB9.out.below⟩
    · have HRR := Lib.hid (hG rfl)
      have HG := Lib.hid (good_of HRR.out)
      clear hG
      obtain ⟨gp0, gp1⟩ := gap_of g
      have KG := Lib.hid (fun W => gap g0 g1 W)
      generalize 1 + g % 1049576 = gp at gp0 gp1 KG
      have hn1 := HG.out.n1
      clear KA g0 g1 HF
      obtain ⟨y0, y1⟩ := HB3.out.cells
      have hwl : w.heap.size < w3.heap.size := HB3.out.lies.lt
      have HTX := Lib.hid (HT.out.below (Nat.le_refl _) HB3.out.below)
      have hn16 := HG.out.n1
      have KP : Hid (∀ w', Below w3.heap.size w3 w' → w'.cell? ⟨w.heap.size, 0, none⟩ = some (.int .i64 b) ∧ w'.cell? ⟨w.heap.size, 1, none⟩ = some (.slice a l.length cap)) := Lib.hid (fun w' hw' => by
        have h : ∀ c, c < w3.heap.size → ∀ k, w'.cell? ⟨c, k, none⟩ = w3.cell? ⟨c, k, none⟩ := fun c hc k => hw'.cell (p := ⟨c, k, none⟩) hc
        exact ⟨(h _ hwl _).trans y0, (h _ hwl _).trans y1⟩)
      go_upto_region 3 with fail
      go_cut [5] (fun s3 wx => SetT w3 b l.length l s3 wx)
      case first =>
        go_region_held3 (fun w' => w'.cell? ⟨w.heap.size, 0, none⟩ = some (.int .i64 b) ∧ w'.cell? ⟨w.heap.size, 1, none⟩ = some (.slice a l.length cap)) (first | (with_reducible exact KP.out _ (below_d1 _ _)) | (with_reducible exact KP.out _ (below_d2 _ _ _)) | (with_reducible exact KP.out _ (hp2.bel)) | (with_reducible exact KP.out _ ((hp2.grows.alloc _).bel)) | (with_reducible exact KP.out _ (hp2.early_below HD.out _ _)) | go_keep) (first | (refine step_append_old (by rfl) (.tmp 27) (.tmp 29) (by rfl) w3 _ 0 l.length cap 0 l.length [] l a (by rfl) (by rfl) (by first | (with_reducible exact GrowsT.drew (grows_n0 _)) | (with_reducible exact GrowsT.drew ((grows_n0 _).alloc _)) | (with_reducible exact GrowsT.drew (grows_n1 _ _))) rfl HTX.out (by omega) (by omega) ?_; intro A2 c2 w4 hp2; first | (have hD : VarT w3 w4 (w3.heap.size) A2 := (by ((with_reducible refine PostT.varOf hp2 (Lies.drew ((lies_m0 _ 24 #[.int .i64 0, .slice none 0 0]).alloc _)) ?_ ?_); omega; exact block_ne (by omega))); have HD := Lib.hid hD; have d0 : w4.cell? ⟨w3.heap.size, 0, none⟩ = some (.int .i64 0) := hD.1.cell 0; have d1 : w4.cell? ⟨w3.heap.size, 1, none⟩ = some (.slice none 0 0) := hD.1.cell 1; have f0 := hD.1.thawed 0; have f1 := hD.1.thawed 1; clear hD) | (have hD : VarT w3 w4 (w3.heap.size + 1) A2 := (by ((with_reducible refine PostT.varOf hp2 (Lies.drew (lies_m1 _ _ 24 #[.int .i64 0, .slice none 0 0])) ?_ ?_); omega; exact block_ne (by omega))); have HD := Lib.hid hD; have d0 : w4.cell? ⟨w3.heap.size + 1, 0, none⟩ = some (.int .i64 0) := hD.1.cell 0; have d1 : w4.cell? ⟨w3.heap.size + 1, 1, none⟩ = some (.slice none 0 0) := hD.1.cell 1; have f0 := hD.1.thawed 0; have f1 := hD.1.thawed 1; clear hD) | skip))
        all_goals
          go_wp2
          go_meet
          first | exact hp2.late b | exact hp2.early HD.out b

      obtain ⟨gw, Aw, cw, rfl, hLw, hTw, hBw⟩ := hcut
      have HLW := Lib.hid hLw
      have HTW := Lib.hid hTw
      have HXW := Lib.hid hBw
      have HBC := Lib.hid (HB3.out.tells hBw)
      clear hLw hTw hBw KP y0 y1 s0 s1 HB3 HTX
      generalize wc = X3 at HLW HTW HXW HBC ⊢
      have KJ : Hid (∀ W, Below X3.heap.size X3 W → Calls Try.prog 13 #[.agg #[.int .i64 b, .slice a l.length cap], .int .i64 gp] W (Judged b gp l W)) := Lib.hid (fun W hb => judge b gp HRR.out (HT.out.below (Nat.le_refl _) (HBC.out.tells hb).below) gp0 gp1)
      have HLB := Lib.hid HBC.out.lies
      have y0 : X3.cell? ⟨w.heap.size, 0, none⟩ = some (.int .i64 b) := HLB.out.cell 0
      have y1 : X3.cell? ⟨w.heap.size, 1, none⟩ = some (.slice a l.length cap) := HLB.out.cell 1
      have hbl : w.heap.size < X3.heap.size := HLB.out.lt
      have KP : Hid (∀ w', Below X3.heap.size X3 w' → w'.cell? ⟨w.heap.size, 0, none⟩ = some (.int .i64 b) ∧ w'.cell? ⟨w.heap.size, 1, none⟩ = some (.slice a l.length cap)) := Lib.hid (fun w' hw' => by
        have h : ∀ c, c < X3.heap.size → ∀ k, w'.cell? ⟨c, k, none⟩ = X3.cell? ⟨c, k, none⟩ := fun c hc k => hw'.cell (p := ⟨c, k, none⟩) hc
        exact ⟨(h _ hbl _).trans y0, (h _ hbl _).trans y1⟩)
      have KJ0 := Lib.hid (KJ.out _ (below_d0 X3))
      have KJ1 := Lib.hid (KJ.out _ (below_d1 X3 (.cells Zvd 29)))
      go_upto_region 4 with fail
      go_cut [6, 7] (fun s3 s4 wx => VdT X3 b gp l l.length s3 s4 wx)
      case first =>
        go_region_held3 (fun w' => w'.cell? ⟨w.heap.size, 0, none⟩ = some (.int .i64 b) ∧ w'.cell? ⟨w.heap.size, 1, none⟩ = some (.slice a l.length cap)) (first | (with_reducible exact KP.out _ (below_d0 _)) | (with_reducible exact KP.out _ (below_d1 _ _)) | (with_reducible exact KP.out _ HU.out) | (with_reducible exact KP.out _ (HU.out.alloc HU.out.size _)) | (with_reducible exact KP.out _ (early_below (Nat.le_refl _) HU.out _ _ _)) | go_keep) (first | ((with_reducible refine (KG.out _).mono ?_); rintro en u ⟨rfl, rfl⟩) | ((with_reducible refine KJ0.out.mono ?_); rintro en u ⟨ok, late, R, t, rfl, hv, hr, htt, hb⟩; have HU := Lib.hid (late_from hb); have HV := Lib.hid hv; have HR := Lib.hid hr; have ht0 : X3.heap.size ≤ t := htt; clear hv hr htt hb) | ((with_reducible refine KJ1.out.mono ?_); rintro en u ⟨ok, late, R, t, rfl, hv, hr, htt, hb⟩; have HU := Lib.hid (early_from hb); have HL := Lib.hid (early_lies hb); have HV := Lib.hid hv; have HR := Lib.hid hr; have ht0 := (early_ge htt).1; have ht1 := (early_ge htt).2; have d0 : u.cell? ⟨X3.heap.size, 0, none⟩ = some (.bool false) := HL.out.cell 0; have d1 : u.cell? ⟨X3.heap.size, 1, none⟩ = some (.int .i64 0) := HL.out.cell 1; have d2 : u.cell? ⟨X3.heap.size, 2, none⟩ = some (.slice none 0 0) := HL.out.cell 2; have f0 := HL.out.thawed 0; have f1 := HL.out.thawed 1; have f2 := HL.out.thawed 2; clear hv hr htt hb))
        all_goals
          go_wp2
          go_meet
          first | exact VdT.behind HV.out HR.out ht0 HU.out | exact VdT.early HV.out HR.out HL.out (Nat.le_refl _) ht0 ht1 HU.out

      clear KJ0 KJ1 KP y0 y1
      obtain ⟨D, ok, late, R, t, rfl, rfl, hL, hr, hv, hD, htt, hne, hb⟩ := hcut
      have HV4 := Lib.hid hL
      have HR4 := Lib.hid hr
      have HD := Lib.hid hv
      have HLR := Lib.hid hv.len
      have HX4 := Lib.hid hb
      clear hL hr hv hb HLB
      obtain ⟨v0, v1, v2⟩ := vd_cells HV4.out
      generalize wc = w4 at HV4 HR4 HX4 v0 v1 v2 ⊢
      have hDlt : D < w4.heap.size := HV4.out.lt
      have htlt : t < w4.heap.size := Lies.lt HR4.out
      have hIR := HR4.out.ints
      rw [HLR.out] at hIR
      have HIR := Lib.hid hIR
      clear hIR
      go_wp2_with (at_builtin; first
        | (refine append_ints _ rfl _ _ rfl w4.heap.size _ 0 [] rfl (own_lit0 w4) _ l.length l.length R rfl HLR.out (HIR.out.alloc _) (by omega) (by simp) ?_
           intro v5 w5 o5 g5
           obtain ⟨hb5, A5, c5, hN5⟩ := own_behind o5 g5
           have HX5 := Lib.hid (HX4.out.trans (hb5.mono HX4.out.size))
           have HV5 := Lib.hid (HV4.out.below hb5 HV4.out.lt)
           have HR5 := Lib.hid (HR4.out.tells hb5)
           have HN5 := Lib.hid hN5
           clear o5 g5 hb5 hN5))
      clear HX4 HV4 HR4 HIR v0 v1 v2
      go_loopw [9] (fun i W => WipeRel X3 D t ok late l.length R w4.heap.size v5 A5 c5 i W) (fun i _ => l.length - (intOf i).toNat)
      case atStart => exact ⟨0, R, by omega, rfl, HX5.out, HV5.out, HR5.out, HLR.out, HN5.out⟩
      case round =>
        obtain ⟨k, R', hk, rfl, hx, hv, hr, hlr, hn⟩ := hrel
        have HX6 := Lib.hid hx
        have HV6 := Lib.hid hv
        have HR6 := Lib.hid hr
        have HN6 := Lib.hid hn
        clear hx hv hr hn HX5 HV5 HR5 HN5
        obtain ⟨v0, v1, v2⟩ := vd_cells HV6.out
        by_cases hlt : k < l.length
        · have t1 : decide ((k : Int) < (l.length : Int)) = true := by simp; omega
          have q1 : (0 : Int) ≤ (k : Int) := by omega
          have q2 : (k : Int) < (l.length : Int) := by omega
          have ck := Lies.cell HR6.out k
          have fk := Lies.thawed HR6.out k
          have hkR : k < R'.length := by omega
          simp only [cellsI, List.getElem?_toArray, List.getElem?_map, List.getElem?_eq_getElem hkR, Option.map_some] at ck
          have HX7 := Lib.hid (HX6.out.setCell (p := ⟨t, k, none⟩) htt (.int .i64 (-5)))
          have HV7 := Lib.hid (HV6.out.there (a := ⟨t, k, none⟩) (fun e => hne e.symm) (.int .i64 (-5)))
          have HR7 := Lib.hid (HR6.out.put k (-5))
          have HN7 := Lib.hid (HN6.out.put (p := ⟨t, k, none⟩) htlt (.int .i64 (-5)))
          go_wp2
          go_roundw
          case rel => exact ⟨k + 1, _, by omega, by go_num, HX7.out, HV7.out, HR7.out, by rw [List.length_set]; exact hlr, HN7.out⟩
          case measure => simp [intOf]; omega
        · have t1 : decide ((k : Int) < (l.length : Int)) = false := by simp; omega
          have t1' : decide (k < l.length) = false := by simp; omega
          obtain rfl := HN6.out.is
          have HBX := Lib.hid (HBC.out.tells HX6.out)
          have KJ2 : Hid (∀ W, Below wr.heap.size wr W → Calls Try.prog 13 #[.agg #[.int .i64 b, .slice a l.length cap], .int .i64 gp] W (Judged b gp l W)) := Lib.hid (fun W hb => KJ.out W (HX6.out.trans (hb.mono HX6.out.size)))
          have HLB := Lib.hid HBX.out.lies
          have HLX := Lib.hid (HLW.out.below HX6.out HLW.out.lt)
          have HTX := Lib.hid (HTW.out.below (Nat.le_refl _) HX6.out)
          clear KJ HR6 HV6 v0 v1 hDlt htlt hk hlt hlr htt hne hD HX6
          generalize wr = X5 at HBX KJ2 HLB HLX HTX HN6 v2 ⊢
          have y0 : X5.cell? ⟨w.heap.size, 0, none⟩ = some (.int .i64 b) := HLB.out.cell 0
          have y1 : X5.cell? ⟨w.heap.size, 1, none⟩ = some (.slice a l.length cap) := HLB.out.cell 1
          have hbl : w.heap.size < X5.heap.size := HLB.out.lt
          have KP : Hid (∀ w', Below X5.heap.size X5 w' → w'.cell? ⟨w.heap.size, 0, none⟩ = some (.int .i64 b) ∧ w'.cell? ⟨w.heap.size, 1, none⟩ = some (.slice a l.length cap)) := Lib.hid (fun w' hw' => by
            have h : ∀ c, c < X5.heap.size → ∀ k, w'.cell? ⟨c, k, none⟩ = X5.cell? ⟨c, k, none⟩ := fun c hc k => hw'.cell (p := ⟨c, k, none⟩) hc
            exact ⟨(h _ hbl _).trans y0, (h _ hbl _).trans y1⟩)
          have KJ0 := Lib.hid (KJ2.out _ (below_d0 X5))
          have KJ1 := Lib.hid (KJ2.out _ (below_d1 X5 (.cells Zvd 29)))
          go_upto_region 10 with fail
          go_cut [10, 11] (fun s3 s4 wx => VdT X5 b gp l l.length s3 s4 wx)
          case first =>
            go_region_held3 (fun w' => w'.cell? ⟨w.heap.size, 0, none⟩ = some (.int .i64 b) ∧ w'.cell? ⟨w.heap.size, 1, none⟩ = some (.slice a l.length cap)) (first | (with_reducible exact KP.out _ (below_d0 _)) | (with_reducible exact KP.out _ (below_d1 _ _)) | (with_reducible exact KP.out _ HU.out) | (with_reducible exact KP.out _ (HU.out.alloc HU.out.size _)) | (with_reducible exact KP.out _ (early_below (Nat.le_refl _) HU.out _ _ _)) | go_keep) (first | ((with_reducible refine (KG.out _).mono ?_); rintro en u ⟨rfl, rfl⟩) | ((with_reducible refine KJ0.out.mono ?_); rintro en u ⟨ok, late, R, t, rfl, hv, hr, htt, hb⟩; have HU := Lib.hid (late_from hb); have HV := Lib.hid hv; have HR := Lib.hid hr; have ht0 : X5.heap.size ≤ t := htt; clear hv hr htt hb) | ((with_reducible refine KJ1.out.mono ?_); rintro en u ⟨ok, late, R, t, rfl, hv, hr, htt, hb⟩; have HU := Lib.hid (early_from hb); have HL := Lib.hid (early_lies hb); have HV := Lib.hid hv; have HR := Lib.hid hr; have ht0 := (early_ge htt).1; have ht1 := (early_ge htt).2; have d0 : u.cell? ⟨X5.heap.size, 0, none⟩ = some (.bool false) := HL.out.cell 0; have d1 : u.cell? ⟨X5.heap.size, 1, none⟩ = some (.int .i64 0) := HL.out.cell 1; have d2 : u.cell? ⟨X5.heap.size, 2, none⟩ = some (.slice none 0 0) := HL.out.cell 2; have f0 := HL.out.thawed 0; have f1 := HL.out.thawed 1; have f2 := HL.out.thawed 2; clear hv hr htt hb))
            all_goals
              go_wp2
              go_meet
              first | exact VdT.behind HV.out HR.out ht0 HU.out | exact VdT.early HV.out HR.out HL.out (Nat.le_refl _) ht0 ht1 HU.out

          clear KJ0 KJ1 KP y0 y1
          obtain ⟨D2, ok2, late2, R2, t2, rfl, rfl, hL, hr, hv, hD, htt, hne, hb⟩ := hcut
          obtain ⟨rfl, rfl, rfl⟩ := HD.out.same HG.out.dist hv
          have HV8 := Lib.hid hL
          have HR8 := Lib.hid hr
          have HB8 := Lib.hid (HBX.out.tells hb)
          have HL8 := Lib.hid (HLX.out.below hb HLX.out.lt)
          have HT8 := Lib.hid (HTX.out.below (Nat.le_refl _) hb)
          have HN8 := Lib.hid (HN6.out.tells hb)
          have HTT := Lib.hid (HT.out.below (Nat.le_refl _) HB8.out.below)
          clear hL hr hv hD htt hne hb HLB HBX HLX HTX HN6 HT v2
          generalize wc = X8 at HV8 HR8 HB8 HL8 HT8 HN8 HTT ⊢
          obtain ⟨s0, s1⟩ := HB8.out.cells
          obtain ⟨v0, v1, v2⟩ := vd_cells HV8.out
          have y0 : X8.cell? ⟨gw, 0, none⟩ = some (.int .i64 b) := HL8.out.cell 0
          have y1 : X8.cell? ⟨gw, 1, none⟩ = some (.slice Aw l.length cw) := HL8.out.cell 1
          have hIR := HR8.out.ints
          rw [HLR.out] at hIR
          have KE := Lib.hid (fun W (hb : Below X8.heap.size X8 W) => refEqual (w := W) HLR.out HLR.out (by omega) (by omega) (hIR.tells hb) (HN8.out.ints.tells hb))
          have hq : decide (R = R) = true := by simp
          rw [hq] at KE
          have KS := Lib.hid (same b l a Aw cap cw (w := X8) (by omega) HTT.out HT8.out)
          clear hIR hq HTT HT8 HR8 HN8
          go_wp2_with (fail)
          with_reducible refine KS.out.mono ?_
          rintro e w9 ⟨rfl, hb9⟩
          have HB9 := Lib.hid (HB8.out.tells hb9)
          have HV9 := Lib.hid (HV8.out.below hb9 HV8.out.lt)
          have KE' := Lib.hid (KE.out _ hb9)
          clear hb9 s0 s1 v0 v1 v2 y0 y1 KS KE HB8 HV8 HL8
          obtain ⟨v0, v1, v2⟩ := vd_cells HV9.out
          go_wp2_with (fail)
          with_reducible refine KE'.out.mono ?_
          rintro e w10 ⟨rfl, p, rfl⟩
          go_wp2
          go_ret
          exact ⟨rfl, below_drewN HB9.out.below p⟩
end Go.Proofs.Ytklnokhabomnfaa
