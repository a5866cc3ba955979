/- The walk of the statement on a task below. -/
import Derived.Test.YtcibkapfekbhoaaAw
import Derived.Test.YtcibkapfekbhoaaGd
import Derived.Test.YtcibkapfekbhoaaRx
import Derived.Test.YtcibkapfekbhoaaGr
import Derived.Lib.QuietBelow
import Derived.Deep.DeepCutAuto
namespace Go.Proofs.Ytcibkapfekbhoaa
open Go.RowKit

/-- The loop: of the first j tasks none has the last priority. -/
def ZRel (b : Int) (l : List Tk) (a : Option Addr) (cap : Nat) (w : World) (i : Value) (W : World) : Prop :=
  ∃ j : Nat, j ≤ l.length ∧ i = .int .i64 (j : Int) ∧ SetBox w b a l.length cap W ∧ ∀ (q : Nat) (t : Tk), q < j → l[q]? = some t → t.Prio ≠ 255
def lowT : Tk := ⟨⟨#[122, 122, 122]⟩, 9, 9, 9, 9, 0, 7, 1, 1, 2, 255⟩
theorem fine_low : Fine lowT := ⟨by decide, by decide⟩

set_option maxRecDepth 100000 in
set_option maxHeartbeats 32000000 in
theorem coreBelow (b : Int) (l : List Tk) (a : Option Addr) (cap : Nat) (i g : Int) (i0 : 0 ≤ i) (i1 : i ≤ 255) (g0 : 0 ≤ g) (g1 : g ≤ 4294967295) {w : World} (hm : l.length ≤ maxLen) (ht : Tasks w a cap l) :
    Calls Try.prog 8 #[.agg #[.int .i64 b, .slice a l.length cap], .int .u8 i, .int .u32 g] w (Woke w) := by
  have KA := Lib.hid (fun W => awake W)
  have HT := Lib.hid ht
  have HB0 := Lib.hid (SetBox.made w b a l.length cap)
  clear ht
  go_enter Try.func8, Try.ntmps8
  go_wp2_with (fail)
  with_reducible refine (KA.out _).mono ?_
  rintro e w1 ⟨rfl, hb1⟩
  have HB1 := Lib.hid (HB0.out.tells hb1)
  have KF := Lib.hid (small b l a cap hm (HT.out.below (Nat.le_refl _) HB1.out.below))
  clear hb1 HB0
  obtain ⟨s0, s1⟩ := HB1.out.cells
  go_wp2_with (fail)
  with_reducible refine KF.out.mono ?_
  rintro e w2 ⟨r, rfl, hb2, hf⟩
  have HB2 := Lib.hid (HB1.out.tells hb2)
  have KR := Lib.hid (refRight b l a cap hm (HT.out.below (Nat.le_refl _) HB2.out.below))
  clear hb2 s0 s1 HB1 KF
  obtain ⟨s0, s1⟩ := HB2.out.cells
  cases r
  · clear hf
    go_wp2_with (fail)
    with_reducible refine (KA.out _).mono ?_
    rintro e w9 ⟨rfl, hb9⟩
    have HB9 := Lib.hid (HB2.out.tells hb9)
    clear hb9
    go_wp2
    go_ret
    exact ⟨rfl, HB9.out.below⟩
  · have HF := Lib.hid (hf rfl)
    clear hf
    have hG := fun h => good_of (b := b) (l := l) (eq_of_beq h)
    generalize ((whyF b l).1 == 0) = rr at KR hG
    go_wp2_with (fail)
    with_reducible refine KR.out.mono ?_
    rintro e w3 ⟨rfl, hb3⟩
    have HB3 := Lib.hid (HB2.out.tells hb3)
    clear hb3 s0 s1 HB2 KR
    obtain ⟨s0, s1⟩ := HB3.out.cells
    cases rr
    · clear hG
      go_wp2_with (fail)
      with_reducible refine (KA.out _).mono ?_
      rintro e w9 ⟨rfl, hb9⟩
      have HB9 := Lib.hid (HB3.out.tells hb9)
      clear hb9
      go_wp2
      go_ret
      exact ⟨rfl, HB9.out.below⟩
    · have HG := Lib.hid (hG rfl)
      clear hG
      by_cases h15 : 15 < l.length
      · have t1 : decide ((15 : Int) < (l.length : Int)) = true := by simp; omega
        have t1' : decide (15 < l.length) = true := by simp; omega
        go_wp2_with (fail)
        with_reducible refine (KA.out _).mono ?_
        rintro e w9 ⟨rfl, hb9⟩
        have HB9 := Lib.hid (HB3.out.tells hb9)
        clear hb9
        go_wp2
        go_ret
        exact ⟨rfl, HB9.out.below⟩
      · have t1 : decide ((15 : Int) < (l.length : Int)) = false := by simp; omega
        have t1' : decide (15 < l.length) = false := by simp; omega
        obtain ⟨k, hk, hke⟩ := place_of (i := i) HG.out.n0
        have hk16 := HG.out.n1
        obtain ⟨gp0, gp1⟩ := gap_of g
        have KK := Lib.hid (task b (a := a) (cap := cap) i0 i1 g0 g1 HG.out.n0 (by omega) hke w3)
        generalize 1 + g % 1049576 = gp at gp0 gp1 KK
        have HO : Hid (l[k]? = some l[k]) := Lib.hid (List.getElem?_eq_getElem hk)
        generalize l[k] = o at HO
        clear hke i0 i1 g0 g1 KA
        go_wp2_with (fail)
        with_reducible refine KK.out.mono ?_
        rintro e w4 ⟨rfl, hb4⟩
        have HB4 := Lib.hid (HB3.out.tells hb4)
        clear hb4 s0 s1 HB3 KK
        obtain ⟨s0, s1⟩ := HB4.out.cells
        have hn15 : l.length ≤ 15 := by omega
        clear t1 t1' h15
        have hmem := List.mem_of_getElem? HO.out
        have hpr := (HG.out.prio o hmem).2
        have hfo := HG.out.fine o hmem
        have hD3 := HF.out.2 o hmem
        have hoD : 1 ≤ o.D := by have := hfo.times; omega
        have hb0 := HG.out.b0
        have hb1 := HG.out.b1
        have HF2 := Lib.hid HG.out.fine
        obtain ⟨r, ok, hR⟩ := resp_is (next_mono (l := l) (o := o) HG.out.b0 HG.out.b1 gp0 HG.out.fine) (by have := next_range (w := 0) (o := o) (by omega) (by omega) HG.out.b0 HG.out.b1 gp0 HG.out.fine hfo (by omega); omega) o.D (by omega)
        clear HF HG hmem hfo hD3 hoD
        go_wp2
        go_loopw [9] (fun i W => ZRel b l a cap w i W) (fun i _ => 40 - (intOf i).toNat)
        case atStart => exact ⟨0, by omega, rfl, HB4.out, fun q t hq => by omega⟩
        case round =>
          obtain ⟨j, hj, rfl, hs, hall⟩ := hrel
          have HBR := Lib.hid hs
          have HA := Lib.hid hall
          clear hs hall HB4
          clear s0 s1
          obtain ⟨s0, s1⟩ := HBR.out.cells
          by_cases hlt : j < l.length
          · have t1 : decide ((j : Int) < (l.length : Int)) = true := by simp; omega
            have hx : l[j]? = some l[j] := List.getElem?_eq_getElem hlt
            have HX := Lib.hid hx
            have HTx := Lib.hid (HT.out.below (Nat.le_refl _) HBR.out.below)
            obtain ⟨bb, off, rfl, hbl, x0, x1, x2, x3, x4, x5, x6, x7, x8, x9, x10⟩ := HTx.out.cells hx
            clear hx x1 x2 x3 x4 x5 x6 x7 x8 x9 HTx
            generalize l[j] = x at x0 x10 HX
            obtain ⟨y, hy⟩ : ∃ y, y = x.name := ⟨_, rfl⟩
            rw [← hy] at x0
            clear hy
            have q1 : (0 : Int) ≤ (j : Int) := by omega
            have q2 : (j : Int) < (l.length : Int) := by omega
            by_cases h5 : x.Prio = 255
            · have t2 : (x.Prio == 255) = true := by simp [h5]
              clear h5
              go_wp2
              go_ret
              exact ⟨rfl, HBR.out.below⟩
            · have t2 : (x.Prio == 255) = false := by simp [h5]
              have HA1 : Hid (∀ (q : Nat) (t : Tk), q < j + 1 → l[q]? = some t → t.Prio ≠ 255) := Lib.hid (fun q t hq ht => by
                by_cases hqj : q = j
                · rw [hqj, HX.out] at ht
                  cases ht
                  exact h5
                · exact HA.out q t (by omega) ht)
              clear h5
              cases he : (y.toList == [122, 122, 122])
              · go_wp2
                go_roundw
                case rel => exact ⟨j + 1, by omega, by go_num, HBR.out, HA1.out⟩
                case measure => simp [intOf]; omega
              · go_wp2
                go_ret
                exact ⟨rfl, HBR.out.below⟩
          · have t1 : decide ((j : Int) < (l.length : Int)) = false := by simp; omega
            have t1' : decide (j < l.length) = false := by simp; omega
            have hP5 : o.Prio ≠ 255 := HA.out k o (by omega) HO.out
            clear HA
            generalize hnl : l.length = nl at HBR hk hn15 ⊢
            rw [hnl] at t1 t1' s1
            have HLK := Lib.hid hnl
            clear hnl
            go_upto_region 10 with fail
            obtain ⟨X, hX⟩ : ∃ X, X = wr.alloc (.cells #[.string ⟨#[122, 122, 122]⟩, .int .i64 9, .int .i64 9, .int .i64 9, .int .i64 9, .int .i64 0, .int .i64 7, .int .i64 1, .int .i64 1, .int .i64 2, .int .i64 255] 39) := ⟨_, rfl⟩
            have hbx : Below wr.heap.size wr X := by rw [hX]; exact below_new _ _
            have HBX := Lib.hid (HBR.out.tells hbx)
            have HLX : Hid (Lies X wr.heap.size 39 #[.string ⟨#[122, 122, 122]⟩, .int .i64 9, .int .i64 9, .int .i64 9, .int .i64 9, .int .i64 0, .int .i64 7, .int .i64 1, .int .i64 1, .int .i64 2, .int .i64 255]) := Lib.hid (by rw [hX]; exact Lies.made _ _ _)
            have hlbw : w.heap.size < wr.heap.size := HBR.out.lies.lt
            rw [← hX]
            clear hX hbx t1 t1' s0 s1 HBR
            generalize wr.heap.size = lb at HLX hlbw ⊢
            obtain ⟨lt, hlt0⟩ : ∃ lt, lt = lowT := ⟨_, rfl⟩
            have HLX' : Hid (Lies X lb 39 (boxT lt)) := Lib.hid (by rw [hlt0]; exact HLX.out)
            have HLOW := Lib.hid hlt0
            clear hlt0 HLX
            have HLX := HLX'
            clear HLX'
            obtain ⟨n, tT, tD, tC, tA, tS, tc, tM, tK, tO, tP⟩ := lt
            simp only [boxT] at HLX
            have HTX := Lib.hid (HT.out.below (Nat.le_refl _) HBX.out.below)
            obtain ⟨bb, off, rfl, hbl, x0, x1, x2, x3, x4, x5, x6, x7, x8, x9, x10⟩ := HTX.out.cells HO.out
            clear x0 x1 x2 x3 x4 x5 x6 x7 x8 x9 x10
            obtain ⟨y0, y1⟩ := HBX.out.cells
            have z0 : X.cell? ⟨lb, 0, none⟩ = some (.string n) := HLX.out.cell 0
            have z1 : X.cell? ⟨lb, 1, none⟩ = some (.int .i64 tT) := HLX.out.cell 1
            have z2 : X.cell? ⟨lb, 2, none⟩ = some (.int .i64 tD) := HLX.out.cell 2
            have z3 : X.cell? ⟨lb, 3, none⟩ = some (.int .i64 tC) := HLX.out.cell 3
            have z4 : X.cell? ⟨lb, 4, none⟩ = some (.int .i64 tA) := HLX.out.cell 4
            have z5 : X.cell? ⟨lb, 5, none⟩ = some (.int .i64 tS) := HLX.out.cell 5
            have z6 : X.cell? ⟨lb, 6, none⟩ = some (.int .i64 tc) := HLX.out.cell 6
            have z7 : X.cell? ⟨lb, 7, none⟩ = some (.int .i64 tM) := HLX.out.cell 7
            have z8 : X.cell? ⟨lb, 8, none⟩ = some (.int .i64 tK) := HLX.out.cell 8
            have z9 : X.cell? ⟨lb, 9, none⟩ = some (.int .i64 tO) := HLX.out.cell 9
            have z10 : X.cell? ⟨lb, 10, none⟩ = some (.int .i64 tP) := HLX.out.cell 10
            have hwl : w.heap.size < X.heap.size := HBX.out.lies.lt
            have hlx : lb < X.heap.size := HLX.out.lt
            have KP : Hid (∀ w', Below X.heap.size X w' → w'.cell? ⟨w.heap.size, 0, none⟩ = some (.int .i64 b) ∧ w'.cell? ⟨w.heap.size, 1, none⟩ = some (.slice (some ⟨bb, off, none⟩) nl cap) ∧ w'.cell? ⟨lb, 0, none⟩ = some (.string n) ∧ w'.cell? ⟨lb, 1, none⟩ = some (.int .i64 tT) ∧ w'.cell? ⟨lb, 2, none⟩ = some (.int .i64 tD) ∧ w'.cell? ⟨lb, 3, none⟩ = some (.int .i64 tC) ∧ w'.cell? ⟨lb, 4, none⟩ = some (.int .i64 tA) ∧ w'.cell? ⟨lb, 5, none⟩ = some (.int .i64 tS) ∧ w'.cell? ⟨lb, 6, none⟩ = some (.int .i64 tc) ∧ w'.cell? ⟨lb, 7, none⟩ = some (.int .i64 tM) ∧ w'.cell? ⟨lb, 8, none⟩ = some (.int .i64 tK) ∧ w'.cell? ⟨lb, 9, none⟩ = some (.int .i64 tO) ∧ w'.cell? ⟨lb, 10, none⟩ = some (.int .i64 tP)) := Lib.hid (fun w' hw' => by
              have h : ∀ c, c < X.heap.size → ∀ k, w'.cell? ⟨c, k, none⟩ = X.cell? ⟨c, k, none⟩ := fun c hc k => hw'.cell (p := ⟨c, k, none⟩) hc
              exact ⟨(h _ hwl _).trans y0, (h _ hwl _).trans y1, (h _ hlx _).trans z0, (h _ hlx _).trans z1, (h _ hlx _).trans z2, (h _ hlx _).trans z3, (h _ hlx _).trans z4, (h _ hlx _).trans z5, (h _ hlx _).trans z6, (h _ hlx _).trans z7, (h _ hlx _).trans z8, (h _ hlx _).trans z9, (h _ hlx _).trans z10⟩)
            go_cut [11] (fun s7 wx => SetT X b (nl + 1) (l ++ ([⟨n, tT, tD, tC, tA, tS, tc, tM, tK, tO, tP⟩] : List Tk)) s7 wx)
            case first =>
              go_region_held3 (fun w' => w'.cell? ⟨w.heap.size, 0, none⟩ = some (.int .i64 b) ∧ w'.cell? ⟨w.heap.size, 1, none⟩ = some (.slice (some ⟨bb, off, none⟩) nl cap) ∧ w'.cell? ⟨lb, 0, none⟩ = some (.string n) ∧ w'.cell? ⟨lb, 1, none⟩ = some (.int .i64 tT) ∧ w'.cell? ⟨lb, 2, none⟩ = some (.int .i64 tD) ∧ w'.cell? ⟨lb, 3, none⟩ = some (.int .i64 tC) ∧ w'.cell? ⟨lb, 4, none⟩ = some (.int .i64 tA) ∧ w'.cell? ⟨lb, 5, none⟩ = some (.int .i64 tS) ∧ w'.cell? ⟨lb, 6, none⟩ = some (.int .i64 tc) ∧ w'.cell? ⟨lb, 7, none⟩ = some (.int .i64 tM) ∧ w'.cell? ⟨lb, 8, none⟩ = some (.int .i64 tK) ∧ w'.cell? ⟨lb, 9, none⟩ = some (.int .i64 tO) ∧ w'.cell? ⟨lb, 10, none⟩ = some (.int .i64 tP)) (first | (with_reducible exact KP.out _ (below_d1 _ _)) | (with_reducible exact KP.out _ (below_d2 _ _ _)) | (with_reducible exact KP.out _ (below_d3 _ _ _ _)) | (with_reducible exact KP.out _ (hp2.bel)) | (with_reducible exact KP.out _ ((hp2.grows.alloc _).bel)) | (with_reducible exact KP.out _ (((hp2.grows.alloc _).alloc _).bel)) | (with_reducible exact KP.out _ (hp3.bel)) | (with_reducible exact KP.out _ ((hp3.grows.alloc _).bel)) | (with_reducible exact KP.out _ (hp3.early_below HD.out _ _)) | go_keep) (first | (refine step_append_old (by rfl) (.tmp 68) (.tmp 70) (by rfl) X _ 0 nl cap 0 nl [] l (some ⟨bb, off, none⟩) (by rfl) (by rfl) (by first | (with_reducible exact GrowsT.drew (grows_n0 _)) | (with_reducible exact GrowsT.drew ((grows_n0 _).alloc _)) | (with_reducible exact GrowsT.drew (((grows_n0 _).alloc _).alloc _)) | (with_reducible exact GrowsT.drew (grows_n1 _ _)) | (with_reducible exact GrowsT.drew ((grows_n1 _ _).alloc _)) | (with_reducible exact GrowsT.drew (grows_n2 _ _ _))) HLK.out HTX.out (by omega) (by omega) ?_; intro A2 c2 w5 hp2) | (refine step_append_tasks (by rfl) (.tmp 71) (.tmp 73) (by rfl) X A2 nl 1 1 c2 (nl + 1) ([] ++ l) ([⟨n, tT, tD, tC, tA, tS, tc, tM, tK, tO, tP⟩] : List Tk) _ (by rfl) (by rfl) (by first | (with_reducible exact hp2.grows) | (with_reducible exact hp2.grows.alloc _) | (with_reducible exact (hp2.grows.alloc _).alloc _)) rfl (by first | (with_reducible exact tasks_11 n tT tD tC tA tS tc tM tK tO tP (lies_m0 _ 39 #[.string n, .int .i64 tT, .int .i64 tD, .int .i64 tC, .int .i64 tA, .int .i64 tS, .int .i64 tc, .int .i64 tM, .int .i64 tK, .int .i64 tO, .int .i64 tP])) | (with_reducible exact tasks_11 n tT tD tC tA tS tc tM tK tO tP ((lies_m0 _ 39 #[.string n, .int .i64 tT, .int .i64 tD, .int .i64 tC, .int .i64 tA, .int .i64 tS, .int .i64 tc, .int .i64 tM, .int .i64 tK, .int .i64 tO, .int .i64 tP]).alloc _)) | (with_reducible exact tasks_11 n tT tD tC tA tS tc tM tK tO tP (lies_m1 _ _ 39 #[.string n, .int .i64 tT, .int .i64 tD, .int .i64 tC, .int .i64 tA, .int .i64 tS, .int .i64 tc, .int .i64 tM, .int .i64 tK, .int .i64 tO, .int .i64 tP])) | ((with_reducible refine tasks_11 n tT tD tC tA tS tc tM tK tO tP (hp2.keep _ _ _ (Lies.drew (lies_m0 _ 39 #[.string n, .int .i64 tT, .int .i64 tD, .int .i64 tC, .int .i64 tA, .int .i64 tS, .int .i64 tc, .int .i64 tM, .int .i64 tK, .int .i64 tO, .int .i64 tP])) ?_)); exact block_ne (by omega)) | ((with_reducible refine tasks_11 n tT tD tC tA tS tc tM tK tO tP (hp2.keep _ _ _ (Lies.drew ((lies_m0 _ 39 #[.string n, .int .i64 tT, .int .i64 tD, .int .i64 tC, .int .i64 tA, .int .i64 tS, .int .i64 tc, .int .i64 tM, .int .i64 tK, .int .i64 tO, .int .i64 tP]).alloc _)) ?_)); exact block_ne (by omega)) | ((with_reducible refine tasks_11 n tT tD tC tA tS tc tM tK tO tP (hp2.keep _ _ _ (Lies.drew (((lies_m0 _ 39 #[.string n, .int .i64 tT, .int .i64 tD, .int .i64 tC, .int .i64 tA, .int .i64 tS, .int .i64 tc, .int .i64 tM, .int .i64 tK, .int .i64 tO, .int .i64 tP]).alloc _).alloc _)) ?_)); exact block_ne (by omega)) | ((with_reducible refine tasks_11 n tT tD tC tA tS tc tM tK tO tP (hp2.keep _ _ _ (Lies.drew (lies_m1 _ _ 39 #[.string n, .int .i64 tT, .int .i64 tD, .int .i64 tC, .int .i64 tA, .int .i64 tS, .int .i64 tc, .int .i64 tM, .int .i64 tK, .int .i64 tO, .int .i64 tP])) ?_)); exact block_ne (by omega)) | ((with_reducible refine tasks_11 n tT tD tC tA tS tc tM tK tO tP (hp2.keep _ _ _ (Lies.drew ((lies_m1 _ _ 39 #[.string n, .int .i64 tT, .int .i64 tD, .int .i64 tC, .int .i64 tA, .int .i64 tS, .int .i64 tc, .int .i64 tM, .int .i64 tK, .int .i64 tO, .int .i64 tP]).alloc _)) ?_)); exact block_ne (by omega)) | ((with_reducible refine tasks_11 n tT tD tC tA tS tc tM tK tO tP (hp2.keep _ _ _ (Lies.drew (lies_m2 _ _ _ 39 #[.string n, .int .i64 tT, .int .i64 tD, .int .i64 tC, .int .i64 tA, .int .i64 tS, .int .i64 tc, .int .i64 tM, .int .i64 tK, .int .i64 tO, .int .i64 tP])) ?_)); exact block_ne (by omega)) | ((with_reducible refine tasks_11 n tT tD tC tA tS tc tM tK tO tP ((hp2.keep _ _ _ (Lies.drew (lies_m0 _ 39 #[.string n, .int .i64 tT, .int .i64 tD, .int .i64 tC, .int .i64 tA, .int .i64 tS, .int .i64 tc, .int .i64 tM, .int .i64 tK, .int .i64 tO, .int .i64 tP])) ?_).alloc _)); exact block_ne (by omega)) | ((with_reducible refine tasks_11 n tT tD tC tA tS tc tM tK tO tP ((hp2.keep _ _ _ (Lies.drew ((lies_m0 _ 39 #[.string n, .int .i64 tT, .int .i64 tD, .int .i64 tC, .int .i64 tA, .int .i64 tS, .int .i64 tc, .int .i64 tM, .int .i64 tK, .int .i64 tO, .int .i64 tP]).alloc _)) ?_).alloc _)); exact block_ne (by omega)) | ((with_reducible refine tasks_11 n tT tD tC tA tS tc tM tK tO tP ((hp2.keep _ _ _ (Lies.drew (((lies_m0 _ 39 #[.string n, .int .i64 tT, .int .i64 tD, .int .i64 tC, .int .i64 tA, .int .i64 tS, .int .i64 tc, .int .i64 tM, .int .i64 tK, .int .i64 tO, .int .i64 tP]).alloc _).alloc _)) ?_).alloc _)); exact block_ne (by omega)) | ((with_reducible refine tasks_11 n tT tD tC tA tS tc tM tK tO tP ((hp2.keep _ _ _ (Lies.drew (lies_m1 _ _ 39 #[.string n, .int .i64 tT, .int .i64 tD, .int .i64 tC, .int .i64 tA, .int .i64 tS, .int .i64 tc, .int .i64 tM, .int .i64 tK, .int .i64 tO, .int .i64 tP])) ?_).alloc _)); exact block_ne (by omega)) | ((with_reducible refine tasks_11 n tT tD tC tA tS tc tM tK tO tP ((hp2.keep _ _ _ (Lies.drew ((lies_m1 _ _ 39 #[.string n, .int .i64 tT, .int .i64 tD, .int .i64 tC, .int .i64 tA, .int .i64 tS, .int .i64 tc, .int .i64 tM, .int .i64 tK, .int .i64 tO, .int .i64 tP]).alloc _)) ?_).alloc _)); exact block_ne (by omega)) | ((with_reducible refine tasks_11 n tT tD tC tA tS tc tM tK tO tP ((hp2.keep _ _ _ (Lies.drew (lies_m2 _ _ _ 39 #[.string n, .int .i64 tT, .int .i64 tD, .int .i64 tC, .int .i64 tA, .int .i64 tS, .int .i64 tc, .int .i64 tM, .int .i64 tK, .int .i64 tO, .int .i64 tP])) ?_).alloc _)); exact block_ne (by omega))) (by omega) (by omega) ?_; intro A3 c3 w6 hp3; first | (have hD : VarT X w6 (X.heap.size) A3 := (by ((with_reducible refine PostT.varE hp2 hp3 (Lies.drew (lies_m0 _ 24 #[.int .i64 0, .slice none 0 0])) (fun h => h) ?_ ?_); exact block_ne (by omega); omega)); have HD := Lib.hid hD; have d0 : w6.cell? ⟨X.heap.size, 0, none⟩ = some (.int .i64 0) := hD.1.cell 0; have d1 : w6.cell? ⟨X.heap.size, 1, none⟩ = some (.slice none 0 0) := hD.1.cell 1; have f0 := hD.1.thawed 0; have f1 := hD.1.thawed 1; clear hD) | (have hD : VarT X w6 (X.heap.size) A3 := (by ((with_reducible refine PostT.varE hp2 hp3 (Lies.drew (lies_m0 _ 24 #[.int .i64 0, .slice none 0 0])) (fun h => h.alloc _) ?_ ?_); exact block_ne (by omega); omega)); have HD := Lib.hid hD; have d0 : w6.cell? ⟨X.heap.size, 0, none⟩ = some (.int .i64 0) := hD.1.cell 0; have d1 : w6.cell? ⟨X.heap.size, 1, none⟩ = some (.slice none 0 0) := hD.1.cell 1; have f0 := hD.1.thawed 0; have f1 := hD.1.thawed 1; clear hD) | (have hD : VarT X w6 (X.heap.size) A3 := (by ((with_reducible refine PostT.varE hp2 hp3 (Lies.drew ((lies_m0 _ 24 #[.int .i64 0, .slice none 0 0]).alloc _)) (fun h => h) ?_ ?_); exact block_ne (by omega); omega)); have HD := Lib.hid hD; have d0 : w6.cell? ⟨X.heap.size, 0, none⟩ = some (.int .i64 0) := hD.1.cell 0; have d1 : w6.cell? ⟨X.heap.size, 1, none⟩ = some (.slice none 0 0) := hD.1.cell 1; have f0 := hD.1.thawed 0; have f1 := hD.1.thawed 1; clear hD) | (have hD : VarT X w6 (X.heap.size) A3 := (by ((with_reducible refine PostT.varE hp2 hp3 (Lies.drew ((lies_m0 _ 24 #[.int .i64 0, .slice none 0 0]).alloc _)) (fun h => h.alloc _) ?_ ?_); exact block_ne (by omega); omega)); have HD := Lib.hid hD; have d0 : w6.cell? ⟨X.heap.size, 0, none⟩ = some (.int .i64 0) := hD.1.cell 0; have d1 : w6.cell? ⟨X.heap.size, 1, none⟩ = some (.slice none 0 0) := hD.1.cell 1; have f0 := hD.1.thawed 0; have f1 := hD.1.thawed 1; clear hD) | (have hD : VarT X w6 (X.heap.size) A3 := (by ((with_reducible refine PostT.varE hp2 hp3 (Lies.drew (((lies_m0 _ 24 #[.int .i64 0, .slice none 0 0]).alloc _).alloc _)) (fun h => h) ?_ ?_); exact block_ne (by omega); omega)); have HD := Lib.hid hD; have d0 : w6.cell? ⟨X.heap.size, 0, none⟩ = some (.int .i64 0) := hD.1.cell 0; have d1 : w6.cell? ⟨X.heap.size, 1, none⟩ = some (.slice none 0 0) := hD.1.cell 1; have f0 := hD.1.thawed 0; have f1 := hD.1.thawed 1; clear hD) | (have hD : VarT X w6 (X.heap.size) A3 := (by ((with_reducible refine PostT.varE hp2 hp3 (Lies.drew (((lies_m0 _ 24 #[.int .i64 0, .slice none 0 0]).alloc _).alloc _)) (fun h => h.alloc _) ?_ ?_); exact block_ne (by omega); omega)); have HD := Lib.hid hD; have d0 : w6.cell? ⟨X.heap.size, 0, none⟩ = some (.int .i64 0) := hD.1.cell 0; have d1 : w6.cell? ⟨X.heap.size, 1, none⟩ = some (.slice none 0 0) := hD.1.cell 1; have f0 := hD.1.thawed 0; have f1 := hD.1.thawed 1; clear hD) | (have hD : VarT X w6 (X.heap.size + 1) A3 := (by ((with_reducible refine PostT.varE hp2 hp3 (Lies.drew (lies_m1 _ _ 24 #[.int .i64 0, .slice none 0 0])) (fun h => h) ?_ ?_); exact block_ne (by omega); omega)); have HD := Lib.hid hD; have d0 : w6.cell? ⟨X.heap.size + 1, 0, none⟩ = some (.int .i64 0) := hD.1.cell 0; have d1 : w6.cell? ⟨X.heap.size + 1, 1, none⟩ = some (.slice none 0 0) := hD.1.cell 1; have f0 := hD.1.thawed 0; have f1 := hD.1.thawed 1; clear hD) | (have hD : VarT X w6 (X.heap.size + 1) A3 := (by ((with_reducible refine PostT.varE hp2 hp3 (Lies.drew (lies_m1 _ _ 24 #[.int .i64 0, .slice none 0 0])) (fun h => h.alloc _) ?_ ?_); exact block_ne (by omega); omega)); have HD := Lib.hid hD; have d0 : w6.cell? ⟨X.heap.size + 1, 0, none⟩ = some (.int .i64 0) := hD.1.cell 0; have d1 : w6.cell? ⟨X.heap.size + 1, 1, none⟩ = some (.slice none 0 0) := hD.1.cell 1; have f0 := hD.1.thawed 0; have f1 := hD.1.thawed 1; clear hD) | (have hD : VarT X w6 (X.heap.size + 1) A3 := (by ((with_reducible refine PostT.varE hp2 hp3 (Lies.drew ((lies_m1 _ _ 24 #[.int .i64 0, .slice none 0 0]).alloc _)) (fun h => h) ?_ ?_); exact block_ne (by omega); omega)); have HD := Lib.hid hD; have d0 : w6.cell? ⟨X.heap.size + 1, 0, none⟩ = some (.int .i64 0) := hD.1.cell 0; have d1 : w6.cell? ⟨X.heap.size + 1, 1, none⟩ = some (.slice none 0 0) := hD.1.cell 1; have f0 := hD.1.thawed 0; have f1 := hD.1.thawed 1; clear hD) | (have hD : VarT X w6 (X.heap.size + 1) A3 := (by ((with_reducible refine PostT.varE hp2 hp3 (Lies.drew ((lies_m1 _ _ 24 #[.int .i64 0, .slice none 0 0]).alloc _)) (fun h => h.alloc _) ?_ ?_); exact block_ne (by omega); omega)); have HD := Lib.hid hD; have d0 : w6.cell? ⟨X.heap.size + 1, 0, none⟩ = some (.int .i64 0) := hD.1.cell 0; have d1 : w6.cell? ⟨X.heap.size + 1, 1, none⟩ = some (.slice none 0 0) := hD.1.cell 1; have f0 := hD.1.thawed 0; have f1 := hD.1.thawed 1; clear hD) | (have hD : VarT X w6 (X.heap.size + 1 + 1) A3 := (by ((with_reducible refine PostT.varE hp2 hp3 (Lies.drew (lies_m2 _ _ _ 24 #[.int .i64 0, .slice none 0 0])) (fun h => h) ?_ ?_); exact block_ne (by omega); omega)); have HD := Lib.hid hD; have d0 : w6.cell? ⟨X.heap.size + 1 + 1, 0, none⟩ = some (.int .i64 0) := hD.1.cell 0; have d1 : w6.cell? ⟨X.heap.size + 1 + 1, 1, none⟩ = some (.slice none 0 0) := hD.1.cell 1; have f0 := hD.1.thawed 0; have f1 := hD.1.thawed 1; clear hD) | (have hD : VarT X w6 (X.heap.size + 1 + 1) A3 := (by ((with_reducible refine PostT.varE hp2 hp3 (Lies.drew (lies_m2 _ _ _ 24 #[.int .i64 0, .slice none 0 0])) (fun h => h.alloc _) ?_ ?_); exact block_ne (by omega); omega)); have HD := Lib.hid hD; have d0 : w6.cell? ⟨X.heap.size + 1 + 1, 0, none⟩ = some (.int .i64 0) := hD.1.cell 0; have d1 : w6.cell? ⟨X.heap.size + 1 + 1, 1, none⟩ = some (.slice none 0 0) := hD.1.cell 1; have f0 := hD.1.thawed 0; have f1 := hD.1.thawed 1; clear hD) | (have hD : VarT X w6 (w5.heap.size) A3 := (by ((with_reducible refine PostT.varB hp2 hp3 (lies_m0 _ 24 #[.int .i64 0, .slice none 0 0]) ?_); omega)); have HD := Lib.hid hD; have d0 : w6.cell? ⟨w5.heap.size, 0, none⟩ = some (.int .i64 0) := hD.1.cell 0; have d1 : w6.cell? ⟨w5.heap.size, 1, none⟩ = some (.slice none 0 0) := hD.1.cell 1; have f0 := hD.1.thawed 0; have f1 := hD.1.thawed 1; clear hD) | (have hD : VarT X w6 (w5.heap.size) A3 := (by ((with_reducible refine PostT.varB hp2 hp3 ((lies_m0 _ 24 #[.int .i64 0, .slice none 0 0]).alloc _) ?_); omega)); have HD := Lib.hid hD; have d0 : w6.cell? ⟨w5.heap.size, 0, none⟩ = some (.int .i64 0) := hD.1.cell 0; have d1 : w6.cell? ⟨w5.heap.size, 1, none⟩ = some (.slice none 0 0) := hD.1.cell 1; have f0 := hD.1.thawed 0; have f1 := hD.1.thawed 1; clear hD) | (have hD : VarT X w6 (w5.heap.size + 1) A3 := (by ((with_reducible refine PostT.varB hp2 hp3 (lies_m1 _ _ 24 #[.int .i64 0, .slice none 0 0]) ?_); omega)); have HD := Lib.hid hD; have d0 : w6.cell? ⟨w5.heap.size + 1, 0, none⟩ = some (.int .i64 0) := hD.1.cell 0; have d1 : w6.cell? ⟨w5.heap.size + 1, 1, none⟩ = some (.slice none 0 0) := hD.1.cell 1; have f0 := hD.1.thawed 0; have f1 := hD.1.thawed 1; clear hD) | skip))
              all_goals
                go_wp2
                go_meet
                first | exact hp3.late b | exact hp3.early HD.out b
            case rest =>
              obtain ⟨g7, A7, c7, rfl, hL7, hT7, hB7⟩ := hcut
              have HL7 := Lib.hid hL7
              have HT7 := Lib.hid hT7
              have HB7 := Lib.hid (HBX.out.tells hB7)
              clear hL7 hT7 hB7 y0 y1 z0 z1 z2 z3 z4 z5 z6 z7 z8 z9 z10 KP HBX HTX HLX
              have h5 : o.Prio < lowT.Prio := by show o.Prio < 255; omega
              have hnb := fun bb => next_below (b := bb) (g := gp) (l := l) h5 (show lowT.Mode ≠ 3 by decide)
              rw [← HLOW.out] at hnb
              have HLF : Hid (∀ t ∈ l ++ ([⟨n, tT, tD, tC, tA, tS, tc, tM, tK, tO, tP⟩] : List Tk), Fine t) := Lib.hid (fun t ht => by
                rcases List.mem_append.1 ht with h | h
                · exact HF2.out t h
                · rw [HLOW.out] at h
                  rw [List.mem_singleton.1 h]; exact fine_low)
              have HO2 : Hid ((l ++ ([⟨n, tT, tD, tC, tA, tS, tc, tM, tK, tO, tP⟩] : List Tk))[k]? = some o) := Lib.hid (by rw [List.getElem?_append_left (by have := HLK.out; omega)]; exact HO.out)
              have HLL : Hid ((l ++ ([⟨n, tT, tD, tC, tA, tS, tc, tM, tK, tO, tP⟩] : List Tk)).length = nl + 1) := Lib.hid (by rw [List.length_append, HLK.out]; rfl)
              have hl20 : (l ++ ([⟨n, tT, tD, tC, tA, tS, tc, tM, tK, tO, tP⟩] : List Tk)).length ≤ 20 := by have := HLL.out; omega
              have hl20' : l.length ≤ 20 := by have := HLK.out; omega
              have KR : Hid (Calls Try.prog 20 #[.agg #[.int .i64 b, .slice (some ⟨bb, off, none⟩) nl cap], .int .i64 (k : Int), .int .i64 gp] wc (Gives (.tuple #[.int .i64 r, .bool ok]) wc)) := Lib.hid (by
                have := response b gp hl20' HF2.out (HT.out.below (Nat.le_refl _) HB7.out.below) HO.out hb0 hb1 gp0 gp1 hR
                rw [HLK.out] at this
                exact this)
              have hR2 := hR.cong (G := nextV b (l ++ ([⟨n, tT, tD, tC, tA, tS, tc, tM, tK, tO, tP⟩] : List Tk)) o gp) (fun x _ _ => ((hnb b).2.2 x).symm)
              have KT : Hid (∀ W, Below wc.heap.size wc W → Calls Try.prog 20 #[.agg #[.int .i64 b, .slice A7 (nl + 1) c7], .int .i64 (k : Int), .int .i64 gp] W (Gives (.tuple #[.int .i64 r, .bool ok]) W)) := Lib.hid (fun W hW => by
                have := response b gp hl20 HLF.out (HT7.out.below (Nat.le_refl _) hW) HO2.out hb0 hb1 gp0 gp1 hR2
                rw [HLL.out] at this
                exact this)
              have KD1 : Hid (∀ W, Below w.heap.size w W → Calls Try.prog 14 #[.agg #[.int .i64 b, .slice (some ⟨bb, off, none⟩) nl cap], .int .i64 (k : Int)] W (Gives (.int .i64 (maxE (dearQ o.Prio) l)) W)) := Lib.hid (fun W hW => by
                have := dear b (by omega) HF2.out (HT.out.below (Nat.le_refl _) hW) HO.out
                rw [HLK.out] at this
                exact this)
              have KA1 : Hid (∀ W, Below w.heap.size w W → Calls Try.prog 16 #[.agg #[.int .i64 b, .slice (some ⟨bb, off, none⟩) nl cap], .int .i64 (k : Int)] W (Gives (.int .i64 (maxE (aheadQ o.Prio) l)) W)) := Lib.hid (fun W hW => by
                have := ahead b (by omega) HF2.out (HT.out.below (Nat.le_refl _) hW) HO.out
                rw [HLK.out] at this
                exact this)
              have KD2 : Hid (∀ W, Below wc.heap.size wc W → Calls Try.prog 14 #[.agg #[.int .i64 b, .slice A7 (nl + 1) c7], .int .i64 (k : Int)] W (Gives (.int .i64 (maxE (dearQ o.Prio) l)) W)) := Lib.hid (fun W hW => by
                have := dear b (by omega) HLF.out (HT7.out.below (Nat.le_refl _) hW) HO2.out
                rw [HLL.out, (hnb b).1] at this
                exact this)
              have KA2 : Hid (∀ W, Below wc.heap.size wc W → Calls Try.prog 16 #[.agg #[.int .i64 b, .slice A7 (nl + 1) c7], .int .i64 (k : Int)] W (Gives (.int .i64 (maxE (aheadQ o.Prio) l)) W)) := Lib.hid (fun W hW => by
                have := ahead b (by omega) HLF.out (HT7.out.below (Nat.le_refl _) hW) HO2.out
                rw [HLL.out, (hnb b).2.1] at this
                exact this)
              clear hR hR2 hnb HLF HO2 HLL hl20 hl20' HT HT7 HO HF2 HLOW HLK h5
              generalize maxE (dearQ o.Prio) l = dv at KD1 KD2
              generalize maxE (aheadQ o.Prio) l = av at KA1 KA2
              clear hpr hP5 hk hlt hj
              clear o
              obtain ⟨s0, s1⟩ := HB7.out.cells
              have y0 : wc.cell? ⟨g7, 0, none⟩ = some (.int .i64 b) := HL7.out.cell 0
              have y1 : wc.cell? ⟨g7, 1, none⟩ = some (.slice A7 (nl + 1) c7) := HL7.out.cell 1
              go_wp2_with (fail)
              with_reducible refine KR.out.mono ?_
              rintro e w8 ⟨rfl, hb8⟩
              have HB8 := Lib.hid (HB7.out.tells hb8)
              have HL8 := Lib.hid (HL7.out.below hb8 HL7.out.lt)
              have HC8 := Lib.hid hb8
              have KT' := Lib.hid (KT.out _ hb8)
              clear hb8 s0 s1 y0 y1 HB7 HL7 KR KT
              obtain ⟨s0, s1⟩ := HB8.out.cells
              have y0 : w8.cell? ⟨g7, 0, none⟩ = some (.int .i64 b) := HL8.out.cell 0
              have y1 : w8.cell? ⟨g7, 1, none⟩ = some (.slice A7 (nl + 1) c7) := HL8.out.cell 1
              go_wp2_with (fail)
              with_reducible refine KT'.out.mono ?_
              rintro e w9 ⟨rfl, hb9⟩
              have HB9 := Lib.hid (HB8.out.tells hb9)
              have HL9 := Lib.hid (HL8.out.below hb9 HL8.out.lt)
              have HC9 := Lib.hid (HC8.out.trans (hb9.mono HC8.out.size))
              clear hb9 s0 s1 y0 y1 HB8 HL8 HC8 KT'
              obtain ⟨s0, s1⟩ := HB9.out.cells
              have y0 : w9.cell? ⟨g7, 0, none⟩ = some (.int .i64 b) := HL9.out.cell 0
              have y1 : w9.cell? ⟨g7, 1, none⟩ = some (.slice A7 (nl + 1) c7) := HL9.out.cell 1
              go_upto_region 13 with fail
              have k_s0 := cell_regrown s0
              have k_s1 := cell_regrown s1
              have k_y0 := cell_regrown y0
              have k_y1 := cell_regrown y1
              have hb := fun d os => HB9.out.below.trans ((below_regrown w9 d os).mono HB9.out.below.size)
              have hc := fun d os => HC9.out.trans ((below_regrown w9 d os).mono HC9.out.size)
              have c1 := fun d os => Calls.regrown_of (w := w9) (d := d) (os := os) (v := .int .i64 dv) (KD1.out _ (hb d os))
              have c2 := fun d os => Calls.regrown_of (w := w9) (d := d) (os := os) (v := .int .i64 dv) (KD2.out _ (hc d os))
              have c3 := fun d os => Calls.regrown_of (w := w9) (d := d) (os := os) (v := .int .i64 av) (KA1.out _ (hb d os))
              have c4 := fun d os => Calls.regrown_of (w := w9) (d := d) (os := os) (v := .int .i64 av) (KA2.out _ (hc d os))
              clear KD1 KD2 KA1 KA2 hb hc
              have tt : (ok == ok) = true := by simp
              refine wp_region_quiet_below (by kernel_rfl) (by kernel_rfl) ?_
              repeat (go_big_quiet_step (with_reducible first | exact c1 _ _ | exact c2 _ _ | exact c3 _ _ | exact c4 _ _))
              refine wpQuiet_nil ?_
              intro Z hw'
              obtain ⟨⟨dq, osq⟩, hw''⟩ := hw'
              have hbb := below_regrown w9 dq osq
              dsimp only at hw''
              rw [← hw''] at hbb
              have HB10 := Lib.hid (HB9.out.tells hbb)
              clear hbb hw'' k_s0 k_s1 k_y0 k_y1 c1 c2 c3 c4 s0 s1 y0 y1 HB9
              go_wp2
              go_ret
              exact ⟨rfl, HB10.out.below⟩
end Go.Proofs.Ytcibkapfekbhoaa
