/- The walk of the statement on the lines of what is printed. -/
import Derived.Test.YtbijgmaeechmoaaDoorAw
import Derived.Test.YtbijgmaeechmoaaDoorKSa
import Derived.Test.YtbijgmaeechmoaaDoorPn
import Derived.Test.YtbijgmaeechmoaaDoorGr
namespace Go.Proofs.YtbijgmaeechmoaaDoor
open Go.RowKit Kx Gx
set_option maxRecDepth 100000

def LineRel (X : List UInt8) (V : World) (n i : Value) (W : World) : Prop := ∃ k : Nat, k ≤ X.length ∧ i = .int .i64 (k : Int) ∧ n = .int .i64 ((cnt (X.take k) : Nat) : Int) ∧ W = V
theorem text_len {b : Int} {l : List Tk} (h : (whyF b l).1 = 0) : (textW b l).length ≤ 30000 := by
  have h1 := (right_iff b l).1 h
  have h2 := linesW_len l (fines h)
  have h3 := numsW_len [b] (fun n hn => by rw [List.mem_singleton.1 hn]; exact ⟨by omega, by omega⟩)
  rw [textW_pre]
  simp only [preW, List.length_append, List.length_cons, List.length_nil] at h3 ⊢
  omega
theorem byte_at {S : ByteArray} {X : List UInt8} (h : S.data.toList = X) {k : Nat} (hk : k < S.size) {c : UInt8} (hc : X[k]? = some c) : (S[k].toNat : Int) = (c.toNat : Int) := by
  subst h
  have : S[k] = c := by
    obtain ⟨h1, h2⟩ := List.getElem?_eq_some_iff.1 hc
    rw [← h2]; rfl
  rw [this]

set_option maxHeartbeats 16000000 in
theorem coreLines (b : Int) (l : List Tk) (a : Option Addr) (cap : Nat) {w : World} (hm : l.length ≤ maxLen) (ht : Tasks w a cap l) (hT : Tab w) :
    Calls Tryd.prog 6 #[.agg #[.int .i64 b, .slice a l.length cap]] w (Woke w) := by
  obtain ⟨g, hg⟩ : ∃ g, g = w.heap.size := ⟨_, rfl⟩
  have HG := Lib.hid hg
  obtain ⟨V, hV⟩ : ∃ V, V = w.alloc (.cells #[.int .i64 b, .slice a l.length cap] 24) := ⟨_, rfl⟩
  have HV := Lib.hid hV
  have HB0 := Lib.hid (show Below g w V by rw [hV, hg]; exact below_new _ _)
  have HS0 := Lib.hid (show Lies V g 24 #[.int .i64 b, .slice a l.length cap] by rw [hV, hg]; exact Lies.made _ _ _)
  have HT := Lib.hid (show Tasks V a cap l from ht.below (B := g) (by omega) HB0.out)
  have HTB := Lib.hid (hT.below (w' := V) (by rw [← hg]; exact HB0.out))
  have hgV : g ≤ V.heap.size := Nat.le_of_lt HS0.out.lt
  have HM := Lib.hid hm
  have KA := Lib.hid (awake V HTB.out)
  clear hg hV hm ht hT
  go_enter Tryd.func6, Tryd.ntmps6
  go_upto_region 1 with fail
  rw [← HV.out]
  try rw [← HG.out]
  go_wp2_with (fail)
  with_reducible refine KA.out.mono ?_
  rintro e w1 ⟨rfl, hb1⟩
  have HB1 := Lib.hid (HB0.out.trans (hb1.mono hgV))
  have HS1 := Lib.hid (HS0.out.below hb1 HS0.out.lt)
  have HT1 := Lib.hid (HT.out.below (Nat.le_refl _) hb1)
  have HTB1 := Lib.hid (HTB.out.below hb1)
  have hgW : g ≤ w1.heap.size := Nat.le_of_lt HS1.out.lt
  clear hb1 KA HS0 HT HTB HB0 hgV
  have KF := Lib.hid (few b l a cap HM.out HT1.out)
  have y0 : w1.cell? ⟨g, 0, none⟩ = some (.int .i64 b) := HS1.out.cell 0
  have y1 : w1.cell? ⟨g, 1, none⟩ = some (.slice a l.length cap) := HS1.out.cell 1
  go_wp2_with (fail)
  with_reducible refine KF.out.mono ?_
  rintro e w2 ⟨fb, rfl, hb2, hf⟩
  have HB2 := Lib.hid (HB1.out.trans (hb2.mono hgW))
  have HS2 := Lib.hid (HS1.out.below hb2 HS1.out.lt)
  have HT2 := Lib.hid (HT1.out.below (Nat.le_refl _) hb2)
  have HTB2 := Lib.hid (HTB1.out.below hb2)
  have hgW : g ≤ w2.heap.size := Nat.le_of_lt HS2.out.lt
  clear hb2 hf KF HS1 HT1 HTB1 HB1 y0 y1
  cases fb with
  | false =>
    have KA := Lib.hid (awake w2 HTB2.out)
    go_wp2_with (fail)
    with_reducible refine KA.out.mono ?_
    rintro e w3 ⟨rfl, hb3⟩
    have HB3 := Lib.hid (HB2.out.trans (hb3.mono hgW))
    clear hb3
    go_wp2
    go_ret
    refine ⟨rfl, ?_⟩
    have := HB3.out
    rw [HG.out] at this
    exact this
  | true =>
    have y0 : w2.cell? ⟨g, 0, none⟩ = some (.int .i64 b) := HS2.out.cell 0
    have y1 : w2.cell? ⟨g, 1, none⟩ = some (.slice a l.length cap) := HS2.out.cell 1
    have KR := Lib.hid (refRight b l a cap HM.out HT2.out)
    cases hR : ((whyF b l).1 == 0) with
    | false =>
      rw [hR] at KR
      clear hR
      go_wp2_with (fail)
      with_reducible refine KR.out.mono ?_
      rintro e w3 ⟨rfl, hb3⟩
      have HB3 := Lib.hid (HB2.out.trans (hb3.mono hgW))
      have KA := Lib.hid (awake w3 (HTB2.out.below hb3))
      have hg3 := Nat.le_trans hgW hb3.size
      clear hb3 y0 y1
      go_wp2_with (fail)
      with_reducible refine KA.out.mono ?_
      rintro e w4 ⟨rfl, hb4⟩
      have HB4 := Lib.hid (HB3.out.trans (hb4.mono hg3))
      clear hb4
      go_wp2
      go_ret
      refine ⟨rfl, ?_⟩
      have := HB4.out
      rw [HG.out] at this
      exact this
    | true =>
      rw [hR] at KR
      have hw : (whyF b l).1 = 0 := by simpa using hR
      have HW := Lib.hid hw
      have h16 : l.length ≤ 16 := ((right_iff b l).1 hw).2.1.2
      clear hR hw
      go_wp2_with (fail)
      with_reducible refine KR.out.mono ?_
      rintro e w3 ⟨rfl, hb3⟩
      have HB3 := Lib.hid (HB2.out.trans (hb3.mono hgW))
      have HS3 := Lib.hid (HS2.out.below hb3 HS2.out.lt)
      have HT3 := Lib.hid (HT2.out.below (Nat.le_refl _) hb3)
      have HTB3 := Lib.hid (HTB2.out.below hb3)
      clear hb3 KR HS2 HT2 HTB2 HB2 y0 y1
      generalize w3 = X at HB3 HS3 HT3 HTB3 ⊢
      have hgX : g < X.heap.size := HS3.out.lt
      have y0 : X.cell? ⟨g, 0, none⟩ = some (.int .i64 b) := HS3.out.cell 0
      have y1 : X.cell? ⟨g, 1, none⟩ = some (.slice a l.length cap) := HS3.out.cell 1
      have HTX := Lib.hid HT3.out
      have KP : Hid (∀ w', Below X.heap.size X w' → w'.cell? ⟨g, 0, none⟩ = some (.int .i64 b) ∧ w'.cell? ⟨g, 1, none⟩ = some (.slice a l.length cap)) := fun w' hw' => by
        have h : ∀ c, c < X.heap.size → ∀ k, w'.cell? ⟨c, k, none⟩ = X.cell? ⟨c, k, none⟩ := fun c hc k => hw'.cell (p := ⟨c, k, none⟩) hc
        exact ⟨(h _ hgX _).trans y0, (h _ hgX _).trans y1⟩
      go_upto_region 3 with fail
      go_cut [3] (fun s3 wx => SetT X b l.length l s3 wx)
      case first =>
        go_region_held3 (fun w' => w'.cell? ⟨g, 0, none⟩ = some (.int .i64 b) ∧ w'.cell? ⟨g, 1, none⟩ = some (.slice a l.length cap)) (first | (with_reducible exact KP.out _ (below_d1 _ _)) | (with_reducible exact KP.out _ (below_d2 _ _ _)) | (with_reducible exact KP.out _ (hp2.bel)) | (with_reducible exact KP.out _ ((hp2.grows.alloc _).bel)) | (with_reducible exact KP.out _ (hp2.early_below HD.out _ _)) | go_keep) (first | (refine step_append_old (by rfl) (.tmp 23) (.tmp 25) (by rfl) X _ 0 l.length cap 0 l.length [] l a (by rfl) (by rfl) (by first | (with_reducible exact GrowsT.drew (grows_n0 _)) | (with_reducible exact GrowsT.drew ((grows_n0 _).alloc _)) | (with_reducible exact GrowsT.drew (grows_n1 _ _))) rfl HTX.out (by omega) (by omega) ?_; intro A2 c2 w4 hp2; first | (have hD : VarT X w4 (X.heap.size) A2 := (by ((with_reducible refine PostT.varOf hp2 (lies_drew ((lies_m0 _ 24 #[.int .i64 0, .slice none 0 0]).alloc _)) ?_ ?_); omega; exact block_ne (by omega))); have HD := Lib.hid hD; have d0 : w4.cell? ⟨X.heap.size, 0, none⟩ = some (.int .i64 0) := hD.1.cell 0; have d1 : w4.cell? ⟨X.heap.size, 1, none⟩ = some (.slice none 0 0) := hD.1.cell 1; have f0 := hD.1.thawed 0; have f1 := hD.1.thawed 1; clear hD) | (have hD : VarT X w4 (X.heap.size + 1) A2 := (by ((with_reducible refine PostT.varOf hp2 (lies_drew (lies_m1 _ _ 24 #[.int .i64 0, .slice none 0 0])) ?_ ?_); omega; exact block_ne (by omega))); have HD := Lib.hid hD; have d0 : w4.cell? ⟨X.heap.size + 1, 0, none⟩ = some (.int .i64 0) := hD.1.cell 0; have d1 : w4.cell? ⟨X.heap.size + 1, 1, none⟩ = some (.slice none 0 0) := hD.1.cell 1; have f0 := hD.1.thawed 0; have f1 := hD.1.thawed 1; clear hD) | skip))
        all_goals
          go_wp2
          go_meet
          first | exact hp2.late b | exact hp2.early HD.out b
      case rest =>
        obtain ⟨gw, Aw, cw, rfl, hLw, hTw, hBw⟩ := hcut
        have HLW := Lib.hid hLw
        have HTW := Lib.hid hTw
        have HSC := Lib.hid (HS3.out.below hBw HS3.out.lt)
        have HBC := Lib.hid (HB3.out.trans (hBw.mono (Nat.le_of_lt hgX)))
        have HTC := Lib.hid (HT3.out.below (Nat.le_refl _) hBw)
        have k4 := set_ b l a cap HM.out HTC.out (HTB3.out.below hBw)
        rw [show printA b l = (textW b l, 0) from if_pos HW.out] at k4
        have K4 := Lib.hid k4
        have HCNT := Lib.hid (text_cnt HW.out)
        have HOK := Lib.hid (text_ok HW.out 0)
        have HLE := Lib.hid (text_len HW.out)
        have hgC : g ≤ wc.heap.size := Nat.le_of_lt HSC.out.lt
        clear hLw hTw hBw KP y0 y1 HB3 HS3 HT3 HTX HTB3 k4
        simp only at K4
        generalize textW b l = Z at K4 HCNT HOK HLE
        obtain ⟨S, hS⟩ : ∃ S : ByteArray, S = ⟨Z.toArray⟩ := ⟨_, rfl⟩
        rw [← hS] at K4
        have HSZ := Lib.hid (show S.data.toList = Z by rw [hS])
        have hss : S.size ≤ 30000 := by rw [← name_len S, HSZ.out]; exact HLE.out
        have HSS := Lib.hid (show Z.length = S.size by rw [← name_len S, HSZ.out])
        clear hS
        have y0 : wc.cell? ⟨g, 0, none⟩ = some (.int .i64 b) := HSC.out.cell 0
        have y1 : wc.cell? ⟨g, 1, none⟩ = some (.slice a l.length cap) := HSC.out.cell 1
        go_wp2_with (fail)
        with_reducible refine K4.out.mono ?_
        rintro e w5 ⟨rfl, hb5⟩
        have HB5 := Lib.hid (HBC.out.trans (hb5.mono hgC))
        have HS5 := Lib.hid (HSC.out.below hb5 HSC.out.lt)
        have HT5 := Lib.hid (HTC.out.below (Nat.le_refl _) hb5)
        have HL5 := Lib.hid (HLW.out.below hb5 HLW.out.lt)
        have HU5 := Lib.hid (HTW.out.below (Nat.le_refl _) hb5)
        have hg5 : g ≤ w5.heap.size := Nat.le_of_lt HS5.out.lt
        clear hb5 K4 y0 y1 HSC HTC HLW HTW HBC
        go_wp2
        go_loopw [6, 7] (fun n i W => LineRel Z w5 n i W) (fun _ i _ => S.size - (intOf i).toNat)
        case atStart => exact ⟨0, Nat.zero_le _, rfl, rfl, rfl⟩
        case round =>
          obtain ⟨k, hk, rfl, rfl, rfl⟩ := hrel
          have hkS : k ≤ S.size := by have := HSS.out; omega
          clear hk
          by_cases hlt : k < S.size
          · have t1 : decide ((k : Int) < (S.size : Int)) = true := by simp; omega
            have hx : Z[k]? = some (Z[k]'(by have := HSS.out; omega)) := List.getElem?_eq_getElem _
            have HN := Lib.hid (cnt_next hx)
            have hb0 := byte_at HSZ.out hlt hx
            have hn1 : cnt (Z.take k) ≤ 30000 := by
              have h1 := cnt_le (Z.take k)
              rw [List.length_take] at h1
              have := HLE.out
              omega
            have HP := Lib.hid (fun (j : Nat) (hj : j + 1 = k) (d : UInt8) (hd : Z[j]? = some d) => ok_at j (x := Z) HOK.out hd (by rw [hj]; exact hx))
            clear hx
            generalize (Z[k]'_) = x at HN hb0 HP
            generalize cnt (Z.take k) = m at HN hn1
            by_cases h10 : x.toNat = 10
            · have HT : Hid (cnt (Z.take (k + 1)) = m + 1) := by rw [HN.out, if_pos h10]; exact (rfl : _ = _)
              have hb1 : (S[k].toNat : Int) = 10 := by rw [hb0, h10]; rfl
              clear HN h10 hb0 HP
              go_wp2
              go_roundw
              case rel => exact ⟨k + 1, by have := HSS.out; omega, by go_num, by rw [HT.out]; go_num, rfl⟩
              case measure => simp [intOf]; omega
            · have HT : Hid (cnt (Z.take (k + 1)) = m) := by rw [HN.out, if_neg h10]; exact (rfl : _ = _)
              by_cases h32 : x.toNat = 32
              · have hb1 : (S[k].toNat : Int) = 32 := by rw [hb0, h32]; rfl
                by_cases h0 : k = 0
                · subst h0
                  clear HN h10 hb0 HP h32
                  simp only [Int.natCast_zero]
                  go_wp2
                  go_roundw
                  case rel => exact ⟨1, by have := HSS.out; omega, by go_num, by rw [HT.out], rfl⟩
                  case measure => simp [intOf]; omega
                · obtain ⟨p, rfl⟩ : ∃ p, k = p + 1 := ⟨k - 1, by omega⟩
                  have hy : Z[p]? = some (Z[p]'(by have := HSS.out; omega)) := List.getElem?_eq_getElem _
                  have hb2 := byte_at HSZ.out (show p < S.size by omega) hy
                  have hno := HP.out p rfl _ hy
                  generalize (Z[p]'_) = y at hb2 hno
                  have q1 : ((y.toNat : Int) == 32) = false := by rw [beq_eq_false_iff_ne]; intro e; exact hno ⟨h32, .inl (by omega)⟩
                  have q2 : ((y.toNat : Int) == 10) = false := by rw [beq_eq_false_iff_ne]; intro e; exact hno ⟨h32, .inr (by omega)⟩
                  have q3 : decide ((0 : Int) < (p : Int) + 1) = true := by rw [decide_eq_true_eq]; omega
                  clear HN h10 hb0 HP h32 hno hy h0
                  generalize (y.toNat : Int) = z at hb2 q1 q2
                  go_wp2
                  go_roundw
                  case rel => exact ⟨p + 1 + 1, by have := HSS.out; omega, by go_num, by rw [HT.out], rfl⟩
                  case measure => simp [intOf]; omega
              · have q1 : ((x.toNat : Int) == 10) = false := by rw [beq_eq_false_iff_ne]; omega
                have q2 : ((x.toNat : Int) == 32) = false := by rw [beq_eq_false_iff_ne]; omega
                clear HN h10 HP h32
                generalize (x.toNat : Int) = z at hb0 q1 q2
                go_wp2
                go_roundw
                case rel => exact ⟨k + 1, by have := HSS.out; omega, by go_num, by rw [HT.out], rfl⟩
                case measure => simp [intOf]; omega
          · have t1 : decide ((k : Int) < (S.size : Int)) = false := by simp; omega
            have t1' : decide (k < S.size) = false := by simp; omega
            have HT := Lib.hid (show cnt (Z.take k) = l.length + 1 by rw [List.take_of_length_le (by have := HSS.out; omega), HCNT.out])
            rw [HT.out]
            have K6 := Lib.hid (same b l a Aw cap cw (by omega) HT5.out HU5.out)
            have y0 : wr.cell? ⟨g, 0, none⟩ = some (.int .i64 b) := HS5.out.cell 0
            have y1 : wr.cell? ⟨g, 1, none⟩ = some (.slice a l.length cap) := HS5.out.cell 1
            have z0 : wr.cell? ⟨gw, 0, none⟩ = some (.int .i64 b) := HL5.out.cell 0
            have z1 : wr.cell? ⟨gw, 1, none⟩ = some (.slice Aw l.length cw) := HL5.out.cell 1
            go_wp2_with (fail)
            with_reducible refine K6.out.mono ?_
            rintro e w6 ⟨rfl, hb6⟩
            have HB6 := Lib.hid (HB5.out.trans (hb6.mono hg5))
            clear hb6
            go_wp2
            go_ret
            refine ⟨rfl, ?_⟩
            have := HB6.out
            rw [HG.out] at this
            exact this
end Go.Proofs.YtbijgmaeechmoaaDoor
