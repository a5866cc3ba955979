/- The walk of the statement on what stays, and what is new. -/
import Derived.Test.YtkldpbehjbecnaaC2
import Derived.Test.YtkldpbehjbecnaaCp
import Derived.Test.YtkldpbehjbecnaaSa
import Derived.Test.YtkldpbehjbecnaaGr
import Derived.Deep.DeepCutAuto
namespace Go.Proofs.Ytkldpbehjbecnaa
open Go.RowKit

def ClrRel (b : Int) (n g gc : Nat) (wc : World) (i : Value) (W : World) : Prop :=
  ∃ k : Nat, k ≤ n ∧ i = .int .i64 (k : Int) ∧ Below wc.heap.size wc W ∧ TRow W g n [] ∧ Lies W gc 24 #[.int .i64 b, .slice (some ⟨g, 0, none⟩) n n]
def WipeRel (n g : Nat) (wc : World) (i : Value) (W : World) : Prop :=
  ∃ (k : Nat) (cs : Array Value), k ≤ n ∧ i = .int .i64 (k : Int) ∧ Below wc.heap.size wc W ∧ Lies W g 3 cs ∧ cs.size = n

set_option maxRecDepth 100000 in
set_option maxHeartbeats 8000000 in
theorem coreKeeps (b : Int) (l : List Tk) (a : Option Addr) (cap : Nat) {w : World} (hm : l.length ≤ maxLen) (ht : Tasks w a cap l) :
    Calls Try.prog 6 #[.agg #[.int .i64 b, .slice a l.length cap]] w (Woke w) := by
  have HT := Lib.hid ht
  have HM := Lib.hid hm
  have HB0 := Lib.hid (below_new w (.cells #[.int .i64 b, .slice a l.length cap] 24))
  have HX0 := Lib.hid (Lies.made w 24 #[.int .i64 b, .slice a l.length cap])
  clear ht hm
  go_enter Try.func6, Try.ntmps6
  go_wp2_with (fail)
  refine (awake _).mono ?_
  rintro e w1 ⟨rfl, hb1⟩
  have HB1 := Lib.hid (HB0.out.trans (hb1.mono HB0.out.size))
  have HX1 := Lib.hid (HX0.out.below hb1 HX0.out.lt)
  clear hb1
  have y0 : w1.cell? ⟨w.heap.size, 0, none⟩ = some (.int .i64 b) := HX1.out.cell 0
  have y1 : w1.cell? ⟨w.heap.size, 1, none⟩ = some (.slice a l.length cap) := HX1.out.cell 1
  have KF := Lib.hid (few b l a cap HM.out (HT.out.below (Nat.le_refl _) HB1.out))
  go_wp2_with (fail)
  with_reducible refine KF.out.mono ?_
  rintro e w2 ⟨fb, rfl, hb2, hf⟩
  have HB2 := Lib.hid (HB1.out.trans (hb2.mono HB1.out.size))
  have HX2 := Lib.hid (HX1.out.below hb2 HX1.out.lt)
  have HF := Lib.hid hf
  clear hb2 hf y0 y1 HB0 HX0 HB1 HX1 KF
  cases fb with
  | false =>
    go_wp2_with (fail)
    refine (awake _).mono ?_
    rintro e w3 ⟨rfl, hb3⟩
    have HB3 := Lib.hid (HB2.out.trans (hb3.mono HB2.out.size))
    clear hb3
    go_wp2
    go_ret
    exact ⟨rfl, HB3.out⟩
  | true =>
    have y0 : w2.cell? ⟨w.heap.size, 0, none⟩ = some (.int .i64 b) := HX2.out.cell 0
    have y1 : w2.cell? ⟨w.heap.size, 1, none⟩ = some (.slice a l.length cap) := HX2.out.cell 1
    have hf := HF.out rfl
    have hm30 : l.length ≤ 30 := hf.1
    have HFW := Lib.hid hf
    clear hf
    have hwl : w.heap.size < w2.heap.size := HX2.out.lt
    generalize w2 = X at HB2 HX2 y0 y1 hwl ⊢
    have HTX := Lib.hid (HT.out.below (Nat.le_refl _) HB2.out)
    have KP : Hid (∀ w', Below X.heap.size X w' → w'.cell? ⟨w.heap.size, 0, none⟩ = some (.int .i64 b) ∧ w'.cell? ⟨w.heap.size, 1, none⟩ = some (.slice a l.length cap)) := fun w' hw' => by
      have h : ∀ c, c < X.heap.size → ∀ k, w'.cell? ⟨c, k, none⟩ = X.cell? ⟨c, k, none⟩ := fun c hc k => hw'.cell (p := ⟨c, k, none⟩) hc
      exact ⟨(h _ hwl _).trans y0, (h _ hwl _).trans y1⟩
    go_upto_region 3 with fail
    go_cut [3] (fun s3 wx => SetT X b l.length l s3 wx)
    case first =>
      go_region_held3 (fun w' => w'.cell? ⟨w.heap.size, 0, none⟩ = some (.int .i64 b) ∧ w'.cell? ⟨w.heap.size, 1, none⟩ = some (.slice a l.length cap)) (first | (with_reducible exact KP.out _ (below_d1 _ _)) | (with_reducible exact KP.out _ (below_d2 _ _ _)) | (with_reducible exact KP.out _ (hp2.bel)) | (with_reducible exact KP.out _ ((hp2.grows.alloc _).bel)) | (with_reducible exact KP.out _ (hp2.early_below HD.out _ _)) | go_keep) (first | (refine step_append_old (by rfl) (.tmp 19) (.tmp 21) (by rfl) X _ 0 l.length cap 0 l.length [] l a (by rfl) (by rfl) (by first | (with_reducible exact GrowsT.drew (grows_n0 _)) | (with_reducible exact GrowsT.drew ((grows_n0 _).alloc _)) | (with_reducible exact GrowsT.drew (grows_n1 _ _))) rfl HTX.out (by omega) (by omega) ?_; intro A2 c2 w4 hp2; first | (have hD : VarT X w4 (X.heap.size) A2 := (by ((with_reducible refine PostT.varOf hp2 (Lies.drew ((lies_m0 _ 24 #[.int .i64 0, .slice none 0 0]).alloc _)) ?_ ?_); omega; exact block_ne (by omega))); have HD := Lib.hid hD; have d0 : w4.cell? ⟨X.heap.size, 0, none⟩ = some (.int .i64 0) := hD.1.cell 0; have d1 : w4.cell? ⟨X.heap.size, 1, none⟩ = some (.slice none 0 0) := hD.1.cell 1; have f0 := hD.1.thawed 0; have f1 := hD.1.thawed 1; clear hD) | (have hD : VarT X w4 (X.heap.size + 1) A2 := (by ((with_reducible refine PostT.varOf hp2 (Lies.drew (lies_m1 _ _ 24 #[.int .i64 0, .slice none 0 0])) ?_ ?_); omega; exact block_ne (by omega))); have HD := Lib.hid hD; have d0 : w4.cell? ⟨X.heap.size + 1, 0, none⟩ = some (.int .i64 0) := hD.1.cell 0; have d1 : w4.cell? ⟨X.heap.size + 1, 1, none⟩ = some (.slice none 0 0) := hD.1.cell 1; have f0 := hD.1.thawed 0; have f1 := hD.1.thawed 1; clear hD) | skip))
      all_goals
        go_wp2
        go_meet
        first | exact hp2.late b | exact hp2.early HD.out b
    case rest =>
      obtain ⟨gw, Aw, cw, rfl, hLw, hTw, hBw⟩ := hcut
      have HLW := Lib.hid hLw
      have HTW := Lib.hid hTw
      have HXC := Lib.hid (HX2.out.below hBw HX2.out.lt)
      have HBC := Lib.hid (HB2.out.trans (hBw.mono HB2.out.size))
      have HTC := Lib.hid (HT.out.below (Nat.le_refl _) HBC.out)
      clear hLw hTw hBw KP y0 y1 HB2 HX2 HTX
      have y0 : wc.cell? ⟨w.heap.size, 0, none⟩ = some (.int .i64 b) := HXC.out.cell 0
      have y1 : wc.cell? ⟨w.heap.size, 1, none⟩ = some (.slice a l.length cap) := HXC.out.cell 1
      have K1 := Lib.hid (copies b l a cap HFW.out HTC.out)
      go_wp2_with (fail)
      with_reducible refine K1.out.mono ?_
      rintro e w5 ⟨g, rfl, hb5, hge, hTR⟩
      have HB5 := Lib.hid (hb5.alloc (B := wc.heap.size) hb5.size (.cells #[.int .i64 b, .slice (some ⟨g, 0, none⟩) l.length l.length] 24))
      have HTR := Lib.hid (hTR.below (below_new w5 (.cells #[.int .i64 b, .slice (some ⟨g, 0, none⟩) l.length l.length] 24)) hTR.lt)
      have HGC := Lib.hid (Lies.made w5 24 #[.int .i64 b, .slice (some ⟨g, 0, none⟩) l.length l.length])
      have hgw5 : g < w5.heap.size := hTR.lt
      clear hb5 hTR y0 y1 K1
      go_upto_region 5 with fail
      generalize w5.alloc (.cells #[.int .i64 b, .slice (some ⟨g, 0, none⟩) l.length l.length] 24) = V at HB5 HTR HGC ⊢
      generalize w5.heap.size = gc at HGC hgw5 ⊢
      have HXV := Lib.hid (HXC.out.below HB5.out HXC.out.lt)
      have y0 : V.cell? ⟨w.heap.size, 0, none⟩ = some (.int .i64 b) := HXV.out.cell 0
      have y1 : V.cell? ⟨w.heap.size, 1, none⟩ = some (.slice a l.length cap) := HXV.out.cell 1
      have v0 : V.cell? ⟨gc, 0, none⟩ = some (.int .i64 b) := HGC.out.cell 0
      have v1 : V.cell? ⟨gc, 1, none⟩ = some (.slice (some ⟨g, 0, none⟩) l.length l.length) := HGC.out.cell 1
      have K2 := Lib.hid (same b l (some ⟨g, 0, none⟩) a l.length cap (w := V) (by omega) HTR.out.tasks (HTC.out.below (Nat.le_refl _) HB5.out))
      go_wp2_with (fail)
      with_reducible refine K2.out.mono ?_
      rintro e w6 ⟨rfl, hb6⟩
      have HB6 := Lib.hid (HB5.out.trans (hb6.mono HB5.out.size))
      have HTR6 := Lib.hid (HTR.out.below hb6 HTR.out.lt).bare
      have HGC6 := Lib.hid (HGC.out.below hb6 HGC.out.lt)
      clear hb6 y0 y1 v0 v1 K2 HB5 HTR HGC HXV
      go_wp2
      go_loopw [6] (fun i W => ClrRel b l.length g gc wc i W) (fun i _ => l.length - (intOf i).toNat)
      case atStart => exact ⟨0, Nat.zero_le _, rfl, HB6.out, HTR6.out, HGC6.out⟩
      case round =>
        obtain ⟨k, hk, rfl, hbel, htr, hgc⟩ := hrel
        have HBR := Lib.hid hbel
        have HTRR := Lib.hid htr
        have HGR := Lib.hid hgc
        clear hbel htr hgc HB6 HTR6 HGC6
        have v1 : wr.cell? ⟨gc, 1, none⟩ = some (.slice (some ⟨g, 0, none⟩) l.length l.length) := HGR.out.cell 1
        by_cases hlt : k < l.length
        · have t1 : decide ((k : Int) < (l.length : Int)) = true := by simp; omega
          have HTH := Lib.hid (HTRR.out.room hlt)
          go_wp2_with ((with_reducible refine store_task ?_ (.tmp 40) (.tmp 39) ?_ g k ⟨⟨#[]⟩, 0, 0, 0, 0, 0, 0, 0, 0, 0, 0⟩ ?_ ?_ HTH.out ?_); rfl; rfl; rfl; rfl)
          have HB7 := Lib.hid (below_setCells (g := g) hge (cellsK ⟨⟨#[]⟩, 0, 0, 0, 0, 0, 0, 0, 0, 0, 0⟩) (k * 11) _ HBR.out)
          have HT7 := Lib.hid (HTRR.out.spoil (k * 11) (cellsK ⟨⟨#[]⟩, 0, 0, 0, 0, 0, 0, 0, 0, 0, 0⟩))
          have HG7 := Lib.hid (lies_other (g := g) (by omega) (cellsK ⟨⟨#[]⟩, 0, 0, 0, 0, 0, 0, 0, 0, 0, 0⟩) (k * 11) _ HGR.out)
          go_roundw
          case rel => exact ⟨k + 1, by omega, by go_num, HB7.out, HT7.out, HG7.out⟩
          case measure => simp [intOf]; omega
        · have t1 : decide ((k : Int) < (l.length : Int)) = false := by simp; omega
          have t1' : decide (k < l.length) = false := by simp; omega
          have HXR := Lib.hid (HXC.out.below HBR.out HXC.out.lt)
          have y0 : wr.cell? ⟨w.heap.size, 0, none⟩ = some (.int .i64 b) := HXR.out.cell 0
          have y1 : wr.cell? ⟨w.heap.size, 1, none⟩ = some (.slice a l.length cap) := HXR.out.cell 1
          have K3 := Lib.hid (refRight b l a cap (w := wr) HM.out (HTC.out.below (Nat.le_refl _) HBR.out))
          cases hR : ((whyF b l).1 == 0) with
          | false =>
            rw [hR] at K3
            clear hR
            go_wp2_with (fail)
            with_reducible refine K3.out.mono ?_
            rintro e w8 ⟨rfl, hb8⟩
            have HB8 := Lib.hid (HBR.out.trans (hb8.mono HBR.out.size))
            clear hb8 y0 y1 K3 v1
            have HXE := Lib.hid (HXC.out.below HB8.out HXC.out.lt)
            have HWE := Lib.hid (HLW.out.below HB8.out HLW.out.lt)
            have y0 : w8.cell? ⟨w.heap.size, 0, none⟩ = some (.int .i64 b) := HXE.out.cell 0
            have y1 : w8.cell? ⟨w.heap.size, 1, none⟩ = some (.slice a l.length cap) := HXE.out.cell 1
            have v0 : w8.cell? ⟨gw, 0, none⟩ = some (.int .i64 b) := HWE.out.cell 0
            have v1 : w8.cell? ⟨gw, 1, none⟩ = some (.slice Aw l.length cw) := HWE.out.cell 1
            have K9 := Lib.hid (same b l a Aw cap cw (w := w8) (by omega) (HTC.out.below (Nat.le_refl _) HB8.out) (HTW.out.below (Nat.le_refl _) HB8.out))
            go_wp2_with (fail)
            with_reducible refine K9.out.mono ?_
            rintro e wz ⟨rfl, hbz⟩
            have HBZ := Lib.hid (HB8.out.trans (hbz.mono HB8.out.size))
            clear hbz
            go_wp2
            go_ret
            exact ⟨rfl, HBC.out.trans (HBZ.out.mono HBC.out.size)⟩
          | true =>
            rw [hR] at K3
            have hn : 1 ≤ l.length ∧ l.length ≤ 16 := ((right_iff b l).1 (show (whyF b l).1 = 0 by simpa using hR)).2.1
            obtain ⟨hn1, hn2⟩ := hn
            clear hR
            go_wp2_with (fail)
            with_reducible refine K3.out.mono ?_
            rintro e w8 ⟨rfl, hb8⟩
            have HB8 := Lib.hid (HBR.out.trans (hb8.mono HBR.out.size))
            clear hb8 y0 y1 K3 v1
            have HX8 := Lib.hid (HXC.out.below HB8.out HXC.out.lt)
            have y0 : w8.cell? ⟨w.heap.size, 0, none⟩ = some (.int .i64 b) := HX8.out.cell 0
            have y1 : w8.cell? ⟨w.heap.size, 1, none⟩ = some (.slice a l.length cap) := HX8.out.cell 1
            have K4 := Lib.hid (order b l a cap hn1 hn2 (HTC.out.below (Nat.le_refl _) HB8.out))
            go_wp2_with (fail)
            with_reducible refine K4.out.mono ?_
            rintro e w9 ⟨go, o, rfl, hb9, hgo, hI, hP, hO⟩
            have HB9 := Lib.hid (HB8.out.trans (hb9.mono HB8.out.size))
            obtain ⟨cs, hcs1, hcs2, _⟩ := hI
            have HCS := Lib.hid hcs1
            have HCZ := Lib.hid hcs2
            have hgo2 : wc.heap.size ≤ go := Nat.le_trans HB8.out.size hgo
            clear hb9 hP hO hcs1 hcs2 y0 y1 K4
            go_wp2
            go_loopw [8] (fun i W => WipeRel l.length go wc i W) (fun i _ => l.length - (intOf i).toNat)
            case atStart => exact ⟨0, cs, Nat.zero_le _, rfl, HB9.out, HCS.out, HCZ.out⟩
            case round =>
              obtain ⟨k, cs, hk, rfl, hbel, hl3, hs3⟩ := hrel
              have HBR := Lib.hid hbel
              have HL3 := Lib.hid hl3
              have HS3 := Lib.hid hs3
              clear hbel hl3 hs3 HB9 HCS HCZ HB8
              by_cases hlt : k < l.length
              · have t1 : decide ((k : Int) < (l.length : Int)) = true := by simp; omega
                have ck : ∃ v, wr.cell? ⟨go, k, none⟩ = some v := ⟨cs[k]'(by rw [HS3.out]; exact hlt), by rw [HL3.out.cell]; exact Array.getElem?_eq_getElem _⟩
                obtain ⟨v, ck⟩ := ck
                have fk := HL3.out.thawed k
                have HB10 := Lib.hid (HBR.out.setCell (p := ⟨go, k, none⟩) hgo2 (.int .i64 (-1)))
                have HL10 := Lib.hid (HL3.out.here k (.int .i64 (-1)))
                have HS10 := Lib.hid (show (cs.setIfInBounds k (.int .i64 (-1))).size = l.length by rw [Array.size_setIfInBounds]; exact HS3.out)
                go_wp2
                go_roundw
                case rel => exact ⟨k + 1, _, by omega, by go_num, HB10.out, HL10.out, HS10.out⟩
                case measure => simp [intOf]; omega
              · have t1 : decide ((k : Int) < (l.length : Int)) = false := by simp; omega
                have t1' : decide (k < l.length) = false := by simp; omega
                have HXE := Lib.hid (HXC.out.below HBR.out HXC.out.lt)
                have HWE := Lib.hid (HLW.out.below HBR.out HLW.out.lt)
                have y0 : wr.cell? ⟨w.heap.size, 0, none⟩ = some (.int .i64 b) := HXE.out.cell 0
                have y1 : wr.cell? ⟨w.heap.size, 1, none⟩ = some (.slice a l.length cap) := HXE.out.cell 1
                have v0 : wr.cell? ⟨gw, 0, none⟩ = some (.int .i64 b) := HWE.out.cell 0
                have v1 : wr.cell? ⟨gw, 1, none⟩ = some (.slice Aw l.length cw) := HWE.out.cell 1
                have K9 := Lib.hid (same b l a Aw cap cw (w := wr) (by omega) (HTC.out.below (Nat.le_refl _) HBR.out) (HTW.out.below (Nat.le_refl _) HBR.out))
                go_wp2_with (fail)
                with_reducible refine K9.out.mono ?_
                rintro e wz ⟨rfl, hbz⟩
                have HBZ := Lib.hid (HBR.out.trans (hbz.mono HBR.out.size))
                clear hbz
                go_wp2
                go_ret
                exact ⟨rfl, HBC.out.trans (HBZ.out.mono HBC.out.size)⟩
end Go.Proofs.Ytkldpbehjbecnaa
