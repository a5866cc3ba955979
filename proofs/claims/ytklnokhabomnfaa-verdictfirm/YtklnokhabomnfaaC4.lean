/- The walk of the statement on what may be skipped. -/
import Derived.Test.YtklnokhabomnfaaAw
import Derived.Test.YtklnokhabomnfaaVk
import Derived.Test.YtklnokhabomnfaaVw
import Derived.Test.YtklnokhabomnfaaRx
import Derived.Deep.RegionHeld3
import Derived.Deep.DeepCutAuto
namespace Go.Proofs.Ytklnokhabomnfaa
open Go.RowKit

def FirmRel (X : World) (b : Int) (l : List Tk) (gw gr off c : Nat) (i : Value) (W : World) : Prop :=
  ∃ (k : Nat) (l' : List Tk), k ≤ l.length ∧ i = .int .i64 (k : Int) ∧ Below X.heap.size X W ∧ Lies W gw 24 #[.int .i64 b, .slice (some ⟨gr, off, none⟩) l.length c] ∧ KRow W gr off l' ∧ Alike l l'
set_option maxRecDepth 100000 in
set_option maxHeartbeats 16000000 in
theorem coreFirm (b : Int) (l : List Tk) (a : Option Addr) (cap : Nat) (g av bb : Int) (g0 : 0 ≤ g) (g1 : g ≤ 4294967295) (av0 : 0 ≤ av) (av1 : av ≤ 255) (bb0 : 0 ≤ bb) (bb1 : bb ≤ 255) {w : World} (hm : l.length ≤ maxLen) (ht : Tasks w a cap l) :
    Calls Try.prog 8 #[.agg #[.int .i64 b, .slice a l.length cap], .int .u32 g, .int .u8 av, .int .u8 bb] w (Woke w) := by
  have KA := Lib.hid (fun W => awake W)
  have HT := Lib.hid ht
  have HB0 := Lib.hid (SetBox.made w b a l.length cap)
  clear ht
  go_enter Try.func8, Try.ntmps8
  go_wp2_with (fail)
  with_reducible refine (KA.out _).mono ?_
  rintro e w1 ⟨rfl, hb1⟩
  have HB1 := Lib.hid (HB0.out.tells hb1)
  have KF := Lib.hid (small b l a cap hm (HT.out.below (Nat.le_refl _) HB1.out.below))
  clear hb1 HB0
  obtain ⟨s0, s1⟩ := HB1.out.cells
  go_wp2_with (fail)
  with_reducible refine KF.out.mono ?_
  rintro e w2 ⟨r, rfl, hb2, hf⟩
  have HB2 := Lib.hid (HB1.out.tells hb2)
  have KR := Lib.hid (refRight b l a cap hm (HT.out.below (Nat.le_refl _) HB2.out.below))
  clear hb2 s0 s1 HB1 KF
  obtain ⟨s0, s1⟩ := HB2.out.cells
  cases r
  · clear hf
    go_wp2_with (fail)
    with_reducible refine (KA.out _).mono ?_
    rintro e w9 ⟨rfl, hb9⟩
    have HB9 := Lib.hid (HB2.out.tells hb9)
    clear hb9
    go_wp2
    go_ret
    exact ⟨rfl, HB9.out.below⟩
  · have HF := Lib.hid (hf rfl)
    clear hf
    have hG : ((whyF b l).1 == 0) = true → (whyF b l).1 = 0 := fun h => eq_of_beq h
    generalize ((whyF b l).1 == 0) = rr at KR hG
    go_wp2_with (fail)
    with_reducible refine KR.out.mono ?_
    rintro e w3 ⟨rfl, hb3⟩
    have HB3 := Lib.hid (HB2.out.tells hb3)
    clear hb3 s0 s1 HB2 KR
    obtain ⟨s0, s1⟩ := HB3.out.cells
    cases rr
    · clear hG
      go_wp2_with (fail)
      with_reducible refine (KA.out _).mono ?_
      rintro e w9 ⟨rfl, hb9⟩
      have HB9 := Lib.hid (HB3.out.tells hb9)
      clear hb9
      go_wp2
      go_ret
      exact ⟨rfl, HB9.out.below⟩
    · have HRR := Lib.hid (hG rfl)
      have HG := Lib.hid (good_of HRR.out)
      clear hG
      obtain ⟨gp0, gp1⟩ := gap_of g
      have KG := Lib.hid (fun W => gap g0 g1 W)
      generalize 1 + g % 1049576 = gp at gp0 gp1 KG
      have hn1 := HG.out.n1
      clear KA g0 g1 HF
      obtain ⟨y0, y1⟩ := HB3.out.cells
      have hwl : w.heap.size < w3.heap.size := HB3.out.lies.lt
      have HTX := Lib.hid (HT.out.below (Nat.le_refl _) HB3.out.below)
      have hn16 := HG.out.n1
      have hn0 := HG.out.n0
      have KP : Hid (∀ w', Below w3.heap.size w3 w' → w'.cell? ⟨w.heap.size, 0, none⟩ = some (.int .i64 b) ∧ w'.cell? ⟨w.heap.size, 1, none⟩ = some (.slice a l.length cap)) := Lib.hid (fun w' hw' => by
        have h : ∀ c, c < w3.heap.size → ∀ k, w'.cell? ⟨c, k, none⟩ = w3.cell? ⟨c, k, none⟩ := fun c hc k => hw'.cell (p := ⟨c, k, none⟩) hc
        exact ⟨(h _ hwl _).trans y0, (h _ hwl _).trans y1⟩)
      go_upto_region 3 with fail
      go_cut [9] (fun s3 wx => SetO w3 b l.length l s3 wx)
      case first =>
        go_region_held3 (fun w' => w'.cell? ⟨w.heap.size, 0, none⟩ = some (.int .i64 b) ∧ w'.cell? ⟨w.heap.size, 1, none⟩ = some (.slice a l.length cap)) (first | (with_reducible exact KP.out _ (below_d1 _ _)) | (with_reducible exact KP.out _ (below_d2 _ _ _)) | (with_reducible exact KP.out _ (hp2.bel)) | (with_reducible exact KP.out _ ((hp2.grows.alloc _).bel)) | (with_reducible exact KP.out _ (hp2.early_below HD.out _ _)) | go_keep) (first | (refine step_append_old (by rfl) (.tmp 30) (.tmp 32) (by rfl) w3 _ 0 l.length cap 0 l.length [] l a (by rfl) (by rfl) (by first | (with_reducible exact GrowsT.drew (grows_n0 _)) | (with_reducible exact GrowsT.drew ((grows_n0 _).alloc _)) | (with_reducible exact GrowsT.drew (grows_n1 _ _))) rfl HTX.out (by omega) (by omega) ?_; intro A2 c2 w4 hp2; first | (have hD : VarT w3 w4 (w3.heap.size) A2 := (by ((with_reducible refine PostT.varOf hp2 (Lies.drew ((lies_m0 _ 24 #[.int .i64 0, .slice none 0 0]).alloc _)) ?_ ?_); omega; exact block_ne (by omega))); have HD := Lib.hid hD; have d0 : w4.cell? ⟨w3.heap.size, 0, none⟩ = some (.int .i64 0) := hD.1.cell 0; have d1 : w4.cell? ⟨w3.heap.size, 1, none⟩ = some (.slice none 0 0) := hD.1.cell 1; have f0 := hD.1.thawed 0; have f1 := hD.1.thawed 1; clear hD) | (have hD : VarT w3 w4 (w3.heap.size + 1) A2 := (by ((with_reducible refine PostT.varOf hp2 (Lies.drew (lies_m1 _ _ 24 #[.int .i64 0, .slice none 0 0])) ?_ ?_); omega; exact block_ne (by omega))); have HD := Lib.hid hD; have d0 : w4.cell? ⟨w3.heap.size + 1, 0, none⟩ = some (.int .i64 0) := hD.1.cell 0; have d1 : w4.cell? ⟨w3.heap.size + 1, 1, none⟩ = some (.slice none 0 0) := hD.1.cell 1; have f0 := hD.1.thawed 0; have f1 := hD.1.thawed 1; clear hD) | skip))
        all_goals
          go_wp2
          go_meet
          first | exact hp2.lateO hn0 b | exact hp2.earlyO HD.out hn0 b

      obtain ⟨gw, gr, off, cw, rfl, hLw, hKw, hcw, hgg, hgr, hBw⟩ := hcut
      have HLW := Lib.hid hLw
      have HKW := Lib.hid hKw
      have HXW := Lib.hid hBw
      have HBC := Lib.hid (HB3.out.tells hBw)
      clear hLw hKw hBw KP y0 y1 s0 s1 HTX
      generalize wc = X3 at HLW HKW HXW HBC ⊢
      have HAL := Lib.hid (Alike.start HRR.out)
      go_wp2
      go_loopw [10] (fun i W => FirmRel w3 b l gw gr off cw i W) (fun i _ => l.length - (intOf i).toNat)
      case atStart => exact ⟨0, l, by omega, rfl, HXW.out, HLW.out, HKW.out, HAL.out⟩
      case round =>
        obtain ⟨k, l', hk, rfl, hx, hl, hkr, hal⟩ := hrel
        have HX5 := Lib.hid hx
        have HL5 := Lib.hid hl
        have HK5 := Lib.hid hkr
        have HA5 := Lib.hid hal
        clear hx hl hkr hal HXW HLW HKW HBC HAL
        have y1 : wr.cell? ⟨gw, 1, none⟩ = some (.slice (some ⟨gr, off, none⟩) l.length cw) := HL5.out.cell 1
        by_cases hlt : k < l.length
        · have t1 : decide ((k : Int) < (l.length : Int)) = true := by simp; omega
          have q1 : (0 : Int) ≤ (k : Int) := by omega
          have q2 : (k : Int) < (l.length : Int) := by omega
          have HT0 := Lib.hid (List.getElem?_eq_getElem hlt)
          generalize l[k]'_ = u at HT0
          obtain ⟨m0, k0, hmk, hu'⟩ := HA5.out.2 k u HT0.out
          have HU := Lib.hid hu'
          have hlt' : k < l'.length := (List.getElem?_eq_some_iff.1 hu').1
          clear hmk hu'
          obtain ⟨x, hx⟩ : ∃ x, x = (bb + (k : Int)) % 64 := ⟨_, rfl⟩
          have x0 : 0 ≤ x := by rw [hx]; exact Int.emod_nonneg _ (by omega)
          have x1 : x < 64 := by rw [hx]; exact Int.emod_lt_of_pos _ (by omega)
          have tx : (bb + (k : Int)).tmod 64 = x := by rw [hx, Int.tmod_eq_emod_of_nonneg (by omega)]
          clear hx
          have wb : IntKind.i64.wrap bb = bb := IntWalk.i64_in _ ⟨by omega, by omega⟩
          have wbk : IntKind.i64.wrap (bb + (k : Int)) = bb + (k : Int) := IntWalk.i64_in _ ⟨by omega, by omega⟩
          have wx : IntKind.i64.wrap x = x := IntWalk.i64_in _ ⟨by omega, by omega⟩
          have wx1 : IntKind.i64.wrap (1 + x) = 1 + x := IntWalk.i64_in _ ⟨by omega, by omega⟩
          have c8 : wr.cell? ⟨gr, off + k * 11 + 8, none⟩ = some (.int .i64 k0) := HK5.out.cell HU.out (j := 8) rfl
          have f8 := HK5.out.thawed (off + k * 11 + 8)
          obtain ⟨y, hy⟩ : ∃ y, y = 1 + x := ⟨_, rfl⟩
          have HX6 := Lib.hid (HX5.out.setCell (p := ⟨gr, off + k * 11 + 8, none⟩) hgr (.int .i64 y))
          have HL6 := Lib.hid (HL5.out.there (a := ⟨gr, off + k * 11 + 8, none⟩) hgg (.int .i64 y))
          have HK6 := Lib.hid (HK5.out.putK HU.out y)
          have HU6 : Hid ((l'.set k (firmed u m0 y))[k]? = some (firmed u m0 y)) := Lib.hid (List.getElem?_set_self hlt')
          go_upto_region 8 with fail
          rw [← hy]
          have hy0 : 1 ≤ y := by omega
          have hy1 : y ≤ 64 := by omega
          clear hy
          generalize wr.setCell ⟨gr, off + k * 11 + 8, none⟩ (.int .i64 y) = X6 at HX6 HL6 HK6 ⊢
          clear y1 c8 f8 HX5 HL5 HK5 tx wb wbk wx wx1
          have y1 : X6.cell? ⟨gw, 1, none⟩ = some (.slice (some ⟨gr, off, none⟩) l.length cw) := HL6.out.cell 1
          have c8 : X6.cell? ⟨gr, off + k * 11 + 8, none⟩ = some (.int .i64 y) := HK6.out.cell HU6.out (j := 8) rfl
          have c7 : X6.cell? ⟨gr, off + k * 11 + 7, none⟩ = some (.int .i64 m0) := HK6.out.cell HU6.out (j := 7) rfl
          have f7 := HK6.out.thawed (off + k * 11 + 7)
          obtain ⟨z, hz⟩ : ∃ z, z = av % y := ⟨_, rfl⟩
          have z0 : 0 ≤ z := by rw [hz]; exact Int.emod_nonneg _ (by omega)
          have z1 : z < y := by rw [hz]; exact Int.emod_lt_of_pos _ (by omega)
          have tz : av.tmod y = z := by rw [hz, Int.tmod_eq_emod_of_nonneg (by omega)]
          clear hz
          have wa : IntKind.i64.wrap av = av := IntWalk.i64_in _ ⟨by omega, by omega⟩
          have wz : IntKind.i64.wrap z = z := IntWalk.i64_in _ ⟨by omega, by omega⟩
          have wz1 : IntKind.i64.wrap (1 + z) = 1 + z := IntWalk.i64_in _ ⟨by omega, by omega⟩
          have y00 : (y == 0) = false := by simp; omega
          have y01 : ¬ (y = 0) := by omega
          have HA7 := Lib.hid (HA5.out.put HT0.out (m := 1 + z) (k := y) (by omega))
          have HX7 := Lib.hid (HX6.out.setCell (p := ⟨gr, off + k * 11 + 7, none⟩) hgr (.int .i64 (1 + z)))
          have HL7 := Lib.hid (HL6.out.there (a := ⟨gr, off + k * 11 + 7, none⟩) hgg (.int .i64 (1 + z)))
          have HK7 := Lib.hid (HK6.out.putM HU6.out (1 + z))
          rw [List.set_set] at HK7
          have HU7 : Hid ((l'.set k (firmed u (1 + z) y))[k]? = some (firmed u (1 + z) y)) := Lib.hid (List.getElem?_set_self hlt')
          have KP7 : Hid ((X6.setCell ⟨gr, off + k * 11 + 7, none⟩ (.int .i64 (1 + z))).drew.cell? ⟨gw, 1, none⟩ = some (.slice (some ⟨gr, off, none⟩) l.length cw) ∧ (X6.setCell ⟨gr, off + k * 11 + 7, none⟩ (.int .i64 (1 + z))).drew.cell? ⟨gr, off + k * 11 + 8, none⟩ = some (.int .i64 y)) := Lib.hid ⟨HL7.out.cell 1, HK7.out.cell HU7.out (j := 8) rfl⟩
          go_region_held3 (fun w' => w'.cell? ⟨gw, 1, none⟩ = some (.slice (some ⟨gr, off, none⟩) l.length cw) ∧ w'.cell? ⟨gr, off + k * 11 + 8, none⟩ = some (.int .i64 y)) (first | exact KP7.out | go_keep) (fail)
          go_wp2
          go_roundw
          case rel => exact ⟨k + 1, _, by omega, by go_num, below_drewN HX7.out 1, HL7.out, HK7.out, HA7.out⟩
          case measure => simp [intOf]; omega
        · have t1 : decide ((k : Int) < (l.length : Int)) = false := by simp; omega
          have t1' : decide (k < l.length) = false := by simp; omega
          have HBX := Lib.hid (HB3.out.tells HX5.out)
          have HLB := Lib.hid HBX.out.lies
          have KJ2 : Hid (∀ W, Below wr.heap.size wr W → Calls Try.prog 13 #[.agg #[.int .i64 b, .slice a l.length cap], .int .i64 gp] W (Judged b gp l W)) := Lib.hid (fun W hb => judge b gp HRR.out (HT.out.below (Nat.le_refl _) (HBX.out.tells hb).below) gp0 gp1)
          clear HX5 hlt hk HB3 HT
          have yl := y1
          clear y1
          generalize wr = X5 at HBX KJ2 HLB HL5 HK5 yl ⊢
          have y0 : X5.cell? ⟨w.heap.size, 0, none⟩ = some (.int .i64 b) := HLB.out.cell 0
          have y1 : X5.cell? ⟨w.heap.size, 1, none⟩ = some (.slice a l.length cap) := HLB.out.cell 1
          have hbl : w.heap.size < X5.heap.size := HLB.out.lt
          have KP : Hid (∀ w', Below X5.heap.size X5 w' → w'.cell? ⟨w.heap.size, 0, none⟩ = some (.int .i64 b) ∧ w'.cell? ⟨w.heap.size, 1, none⟩ = some (.slice a l.length cap)) := Lib.hid (fun w' hw' => by
            have h : ∀ c, c < X5.heap.size → ∀ k, w'.cell? ⟨c, k, none⟩ = X5.cell? ⟨c, k, none⟩ := fun c hc k => hw'.cell (p := ⟨c, k, none⟩) hc
            exact ⟨(h _ hbl _).trans y0, (h _ hbl _).trans y1⟩)
          have KJ0 := Lib.hid (KJ2.out _ (below_d0 X5))
          have KJ1 := Lib.hid (KJ2.out _ (below_d1 X5 (.cells Zvd 29)))
          go_upto_region 9 with fail
          go_cut [11, 12] (fun s3 s4 wx => VdT X5 b gp l l.length s3 s4 wx)
          case first =>
            go_region_held3 (fun w' => w'.cell? ⟨w.heap.size, 0, none⟩ = some (.int .i64 b) ∧ w'.cell? ⟨w.heap.size, 1, none⟩ = some (.slice a l.length cap)) (first | (with_reducible exact KP.out _ (below_d0 _)) | (with_reducible exact KP.out _ (below_d1 _ _)) | (with_reducible exact KP.out _ HU.out) | (with_reducible exact KP.out _ (HU.out.alloc HU.out.size _)) | (with_reducible exact KP.out _ (early_below (Nat.le_refl _) HU.out _ _ _)) | go_keep) (first | ((with_reducible refine (KG.out _).mono ?_); rintro en u ⟨rfl, rfl⟩) | ((with_reducible refine KJ0.out.mono ?_); rintro en u ⟨ok, late, R, t, rfl, hv, hr, htt, hb⟩; have HU := Lib.hid (late_from hb); have HV := Lib.hid hv; have HR := Lib.hid hr; have ht0 : X5.heap.size ≤ t := htt; clear hv hr htt hb) | ((with_reducible refine KJ1.out.mono ?_); rintro en u ⟨ok, late, R, t, rfl, hv, hr, htt, hb⟩; have HU := Lib.hid (early_from hb); have HL := Lib.hid (early_lies hb); have HV := Lib.hid hv; have HR := Lib.hid hr; have ht0 := (early_ge htt).1; have ht1 := (early_ge htt).2; have d0 : u.cell? ⟨X5.heap.size, 0, none⟩ = some (.bool false) := HL.out.cell 0; have d1 : u.cell? ⟨X5.heap.size, 1, none⟩ = some (.int .i64 0) := HL.out.cell 1; have d2 : u.cell? ⟨X5.heap.size, 2, none⟩ = some (.slice none 0 0) := HL.out.cell 2; have f0 := HL.out.thawed 0; have f1 := HL.out.thawed 1; have f2 := HL.out.thawed 2; clear hv hr htt hb))
            all_goals
              go_wp2
              go_meet
              first | exact VdT.behind HV.out HR.out ht0 HU.out | exact VdT.early HV.out HR.out HL.out (Nat.le_refl _) ht0 ht1 HU.out

          clear KJ0 KJ1 KP y0 y1
          obtain ⟨D, ok, late, R, t, rfl, rfl, hL, hr, hv, hD, htt, hne, hb⟩ := hcut
          have HV6 := Lib.hid hL
          have HR6 := Lib.hid hr
          have HD := Lib.hid hv
          have HLR := Lib.hid hv.len
          have HB6 := Lib.hid (HBX.out.tells hb)
          have HL6 := Lib.hid (HL5.out.below hb HL5.out.lt)
          have HK6 := Lib.hid (HK5.out.tells hb)
          clear hL hr hv hD htt hne hb HLB HBX HL5 HK5 KJ2 hbl yl
          generalize wc = X6 at HV6 HR6 HB6 HL6 HK6 ⊢
          have KJ3 : Hid (∀ W, Below X6.heap.size X6 W → Calls Try.prog 13 #[.agg #[.int .i64 b, .slice (some ⟨gr, off, none⟩) l.length cw], .int .i64 gp] W (Judged b gp l' W)) := Lib.hid (fun W hb => by
            have := judge b gp (w := W) (HA5.out.right HRR.out) ((HK6.out.tells hb).tasks (c := cw) (by rw [HA5.out.1]; exact hcw)) gp0 gp1
            rw [HA5.out.1] at this
            exact this)
          have y0 : X6.cell? ⟨gw, 0, none⟩ = some (.int .i64 b) := HL6.out.cell 0
          have y1 : X6.cell? ⟨gw, 1, none⟩ = some (.slice (some ⟨gr, off, none⟩) l.length cw) := HL6.out.cell 1
          have hbl : gw < X6.heap.size := HL6.out.lt
          have KP : Hid (∀ w', Below X6.heap.size X6 w' → w'.cell? ⟨gw, 0, none⟩ = some (.int .i64 b) ∧ w'.cell? ⟨gw, 1, none⟩ = some (.slice (some ⟨gr, off, none⟩) l.length cw)) := Lib.hid (fun w' hw' => by
            have h : ∀ c, c < X6.heap.size → ∀ k, w'.cell? ⟨c, k, none⟩ = X6.cell? ⟨c, k, none⟩ := fun c hc k => hw'.cell (p := ⟨c, k, none⟩) hc
            exact ⟨(h _ hbl _).trans y0, (h _ hbl _).trans y1⟩)
          have KJ0 := Lib.hid (KJ3.out _ (below_d0 X6))
          have KJ1 := Lib.hid (KJ3.out _ (below_d1 X6 (.cells Zvd 29)))
          go_upto_region 10 with fail
          go_cut [13, 14] (fun s3 s4 wx => VdT X6 b gp l' l'.length s3 s4 wx)
          case first =>
            go_region_held3 (fun w' => w'.cell? ⟨gw, 0, none⟩ = some (.int .i64 b) ∧ w'.cell? ⟨gw, 1, none⟩ = some (.slice (some ⟨gr, off, none⟩) l.length cw)) (first | (with_reducible exact KP.out _ (below_d0 _)) | (with_reducible exact KP.out _ (below_d1 _ _)) | (with_reducible exact KP.out _ HU.out) | (with_reducible exact KP.out _ (HU.out.alloc HU.out.size _)) | (with_reducible exact KP.out _ (early_below (Nat.le_refl _) HU.out _ _ _)) | go_keep) (first | ((with_reducible refine (KG.out _).mono ?_); rintro en u ⟨rfl, rfl⟩) | ((with_reducible refine KJ0.out.mono ?_); rintro en u ⟨ok, late, R, t, rfl, hv, hr, htt, hb⟩; have HU := Lib.hid (late_from hb); have HV := Lib.hid hv; have HR := Lib.hid hr; have ht0 : X6.heap.size ≤ t := htt; clear hv hr htt hb) | ((with_reducible refine KJ1.out.mono ?_); rintro en u ⟨ok, late, R, t, rfl, hv, hr, htt, hb⟩; have HU := Lib.hid (early_from hb); have HL := Lib.hid (early_lies hb); have HV := Lib.hid hv; have HR := Lib.hid hr; have ht0 := (early_ge htt).1; have ht1 := (early_ge htt).2; have d0 : u.cell? ⟨X6.heap.size, 0, none⟩ = some (.bool false) := HL.out.cell 0; have d1 : u.cell? ⟨X6.heap.size, 1, none⟩ = some (.int .i64 0) := HL.out.cell 1; have d2 : u.cell? ⟨X6.heap.size, 2, none⟩ = some (.slice none 0 0) := HL.out.cell 2; have f0 := HL.out.thawed 0; have f1 := HL.out.thawed 1; have f2 := HL.out.thawed 2; clear hv hr htt hb))
            all_goals
              go_wp2
              go_meet
              first | exact VdT.behind HV.out HR.out ht0 HU.out | exact VdT.early HV.out HR.out HL.out (Nat.le_refl _) ht0 ht1 HU.out

          clear KJ0 KJ1 KP y0 y1
          obtain ⟨D2, ok2, late2, R2, t2, rfl, rfl, hL, hr, hv, hD, htt, hne, hb⟩ := hcut
          obtain ⟨rfl, rfl, rfl⟩ := HA5.out.same HRR.out HD.out hv
          rw [HA5.out.1] at hL
          have HU8 := Lib.hid hL
          have HQ8 := Lib.hid hr
          have HV8 := Lib.hid (HV6.out.below hb HV6.out.lt)
          have HR8 := Lib.hid (HR6.out.tells hb)
          have HB8 := Lib.hid (HB6.out.tells hb)
          clear hL hr hv hD htt hne hb HV6 HR6 HB6 HL6 HK6 KJ3
          generalize wc = X9 at HU8 HQ8 HV8 HR8 HB8 ⊢
          obtain ⟨v0, v1, v2⟩ := vd_cells HV8.out
          obtain ⟨u0, u1, u2⟩ := vd_cells HU8.out
          have hI := HR8.out.ints
          have hI' := HQ8.out.ints
          rw [HLR.out] at hI hI'
          have KS := Lib.hid (sameVerdict ok ok late late (w := X9) HLR.out HLR.out (by omega) (by omega) hI hI')
          have KT := Lib.hid (fun W (hb : Below X9.heap.size X9 W) => refVerdict ok ok late late (w := W) HLR.out HLR.out (by omega) (by omega) (hI.tells hb) (hI'.tells hb))
          simp only [same_self] at KS KT
          clear hI hI'
          go_wp2_with (fail)
          with_reducible refine KS.out.mono ?_
          rintro e w10 ⟨rfl, hb10⟩
          have HB10 := Lib.hid (HB8.out.tells hb10)
          have HV10 := Lib.hid (HV8.out.below hb10 HV8.out.lt)
          have HU10 := Lib.hid (HU8.out.below hb10 HU8.out.lt)
          have KT' := Lib.hid (KT.out w10 hb10)
          clear hb10 v0 v1 v2 u0 u1 u2 KS KT HB8 HV8 HU8
          obtain ⟨v0, v1, v2⟩ := vd_cells HV10.out
          obtain ⟨u0, u1, u2⟩ := vd_cells HU10.out
          go_wp2_with (fail)
          with_reducible refine KT'.out.mono ?_
          rintro e w11 ⟨rfl, hb11⟩
          have HB11 := Lib.hid (HB10.out.tells hb11)
          clear hb11
          go_wp2
          go_ret
          exact ⟨rfl, HB11.out.below⟩
end Go.Proofs.Ytklnokhabomnfaa
