/- The walk of the statement on texts that are read, printed and read again. -/
import Derived.Test.YtbijgmaeechmoaaDoorAw
import Derived.Test.YtbijgmaeechmoaaDoorKSa
import Derived.Test.YtbijgmaeechmoaaDoorPm
namespace Go.Proofs.YtbijgmaeechmoaaDoor
open Go.RowKit Kx Lx
set_option maxRecDepth 100000

/-- What is answered, part by part. -/
def Parsed' (B : Int) (L : List Tk) (E li co : Nat) (w : World) (e : Ending) (w' : World) : Prop :=
  ∃ A c, e = .returned (.tuple #[.agg #[.int .i64 B, .slice A L.length c], .agg #[.int .i64 (E : Int), .int .i64 (li : Int), .int .i64 (co : Int)]]) ∧ Tasks w' A c L ∧ (∀ x, A = some x → w.heap.size ≤ x.block) ∧ Below w.heap.size w w'
theorem set' {l : List UInt8} {B : Int} {L : List Tk} {E li co : Nat} (h : setA l = ((B, L), E, li, co)) {a : Option Addr} {cap n : Nat} {w : World} (hl : l.length ≤ 100000) (hn : l.length = n) (hb : Bytes w a cap l) :
    Calls Tryd.prog 16 #[.slice a n cap] w (Parsed' B L E li co w) := by
  subst hn
  have := set l a cap hl hb
  rw [h] at this
  exact this.mono fun e w' ⟨A, c, he, h1, h2, h3⟩ => ⟨A, c, he, h1, h2, h3⟩
theorem textW_len {b : Int} {l : List Tk} (h : (whyF b l).1 = 0) : (textW b l).length ≤ 30000 := by
  have h1 := (right_iff b l).1 h
  have h2 := linesW_len l (fines h)
  have h3 := numsW_len [b] (fun n hn => by rw [List.mem_singleton.1 hn]; exact ⟨by omega, by omega⟩)
  rw [textW_pre]
  simp only [preW, List.length_append, List.length_cons, List.length_nil] at h3 ⊢
  omega
/-- A text that is turned into bytes. -/
theorem conv_text (w : World) (X : List UInt8) : ∃ (W : World) (c : Nat), (convert 9 40 (.string ⟨X.toArray⟩)).run Tryd.prog w = .ok (.slice (some ⟨w.heap.size, 0, none⟩) X.length c) W ∧ Bytes W (some ⟨w.heap.size, 0, none⟩) c X ∧ Below w.heap.size w W := by
  have h := conv_bytes w ⟨X.toArray⟩
  have hb := bytes_conv w ⟨X.toArray⟩
  rw [size_text] at h hb
  exact ⟨_, _, h, hb, below_conv w _⟩

set_option maxHeartbeats 8000000 in
theorem coreRead (l : List UInt8) (a : Option Addr) (cap : Nat) {w : World} (hm : l.length ≤ maxLen) (hb : Bytes w a cap l) (hT : Tab w) : Calls Tryd.prog 5 #[.slice a l.length cap] w (Woke w) := by
  unfold maxLen at hm
  have HB := Lib.hid hb
  have HT := Lib.hid hT
  have KA := Lib.hid (awake w hT)
  clear hb hT
  by_cases h5 : 3000 < l.length
  · have t1 : decide ((3000 : Int) < (l.length : Int)) = true := by simp; omega
    go_enter Tryd.func5, Tryd.ntmps5
    go_wp2_with (fail)
    with_reducible refine KA.out.mono ?_
    rintro e w1 ⟨rfl, hb1⟩
    have H1 := Lib.hid hb1
    have KA2 := Lib.hid (awake w1 (HT.out.below hb1))
    clear hb1
    go_wp2_with (fail)
    with_reducible refine KA2.out.mono ?_
    rintro e w2 ⟨rfl, hb2⟩
    have H2 := Lib.hid (H1.out.trans (hb2.mono H1.out.size))
    clear hb2
    go_wp2
    go_ret
    exact ⟨rfl, H2.out⟩
  · have t1 : decide ((3000 : Int) < (l.length : Int)) = false := by simp; omega
    go_enter Tryd.func5, Tryd.ntmps5
    go_wp2_with (fail)
    with_reducible refine KA.out.mono ?_
    rintro e w1 ⟨rfl, hb1⟩
    have HB1 := Lib.hid hb1
    have HT1 := Lib.hid (HT.out.below hb1)
    clear hb1 KA
    obtain ⟨⟨⟨B, L⟩, E, li, co⟩, hS⟩ : ∃ S, S = setA l := ⟨_, rfl⟩
    have HC := Lib.hid (setA_cases l)
    rw [← hS] at HC
    have K1 := Lib.hid (set' hS.symm (by omega) rfl (HB.out.below (Nat.le_refl _) HB1.out))
    clear hS
    go_wp2_with (fail)
    with_reducible refine K1.out.mono ?_
    rintro e w2 ⟨A, c, rfl, hta, _, hb2⟩
    have HB2 := Lib.hid (HB1.out.trans (hb2.mono HB1.out.size))
    have HT2 := Lib.hid (HT1.out.below hb2)
    have HTA := Lib.hid hta
    clear hb2 hta
    by_cases hE : E = 0
    · subst hE
      have hw : (whyF B L).1 = 0 := by
        rcases HC.out with ⟨_, _, _, _, h⟩ | ⟨h, _⟩
        · exact h
        · exact absurd rfl h
      have h16 : L.length ≤ 16 := ((right_iff B L).1 hw).2.1.2
      have HX := Lib.hid (textW_len hw)
      have HBK := Lib.hid (back hw)
      have KS := Lib.hid (fun (W : World) (h : Tasks W A c L) => refSet B L A c hw h)
      obtain ⟨g, hg⟩ : ∃ g, g = w2.heap.size := ⟨_, rfl⟩
      have HG := Lib.hid hg
      obtain ⟨V, hV⟩ : ∃ V, V = (w2.alloc (.cells #[.int .i64 B, .slice A L.length c] 24)).alloc (.cells #[.int .i64 0, .int .i64 (li : Int), .int .i64 (co : Int)] 37) := ⟨_, rfl⟩
      have HV := Lib.hid hV
      have hbV : Below w2.heap.size w2 V := by rw [hV]; exact (below_new _ _).alloc (by simp) _
      have HBV := Lib.hid (HB2.out.trans (hbV.mono HB2.out.size))
      have HLV := Lib.hid (show Lies V g 24 #[.int .i64 B, .slice A L.length c] by rw [hV, hg]; exact (Lies.made _ _ _).alloc _)
      have HEV := Lib.hid (show Lies V (g + 1) 37 #[.int .i64 0, .int .i64 (li : Int), .int .i64 (co : Int)] by
        rw [hV, hg]
        have := Lies.made (w2.alloc (.cells #[.int .i64 B, .slice A L.length c] 24)) 37 #[.int .i64 0, .int .i64 (li : Int), .int .i64 (co : Int)]
        simpa using this)
      have HTV := Lib.hid (HTA.out.below (Nat.le_refl _) hbV)
      have k2 := set_ B L A c (w := V) (by unfold maxLen; omega) HTV.out (HT2.out.below hbV)
      rw [show printA B L = (textW B L, 0) from if_pos hw] at k2
      have K2 := Lib.hid k2
      clear hV hbV hg k2 hw K1 HC
      generalize textW B L = X at K2 KS HX HBK
      have x0 : V.cell? ⟨g, 0, none⟩ = some (.int .i64 B) := HLV.out.cell 0
      have x1 : V.cell? ⟨g, 1, none⟩ = some (.slice A L.length c) := HLV.out.cell 1
      have e0 : V.cell? ⟨g + 1, 0, none⟩ = some (.int .i64 0) := HEV.out.cell 0
      simp only at K2
      go_upto_region 4 with fail
      rw [← HV.out]
      try rw [← HG.out]
      go_wp2_with (fail)
      with_reducible refine K2.out.mono ?_
      rintro e w3 ⟨rfl, hb3⟩
      have HB3 := Lib.hid (HBV.out.trans (hb3.mono HBV.out.size))
      have HL3 := Lib.hid (HLV.out.below hb3 HLV.out.lt)
      have HT3 := Lib.hid (HTV.out.below (Nat.le_refl _) hb3)
      clear hb3 x0 x1 e0 K2
      obtain ⟨W4, c4, hC, hby, hb4⟩ := conv_text w3 X
      have HB4 := Lib.hid (HB3.out.trans (hb4.mono HB3.out.size))
      have HL4 := Lib.hid (HL3.out.below hb4 HL3.out.lt)
      have HT4 := Lib.hid (HT3.out.below (Nat.le_refl _) hb4)
      have K3 := Lib.hid (set' HBK.out (by have := HX.out; omega) rfl hby)
      clear hby hb4
      go_wp2_with (fail)
      with_reducible refine K3.out.mono ?_
      rintro e w5 ⟨A2, c2, rfl, hta, _, hb5⟩
      have HB5 := Lib.hid (HB4.out.trans (hb5.mono HB4.out.size))
      have HL5 := Lib.hid (HL4.out.below hb5 HL4.out.lt)
      have HT5 := Lib.hid (HT4.out.below (Nat.le_refl _) hb5)
      have HU5 := Lib.hid hta
      clear hta hb5 K3 hC
      obtain ⟨q, hq⟩ : ∃ q, q = w5.heap.size := ⟨_, rfl⟩
      have HQ := Lib.hid hq
      obtain ⟨Y, hY⟩ : ∃ Y, Y = (w5.alloc (.cells #[.int .i64 B, .slice A2 L.length c2] 24)).alloc (.cells #[.int .i64 0, .int .i64 0, .int .i64 0] 37) := ⟨_, rfl⟩
      have HY := Lib.hid hY
      have hbY : Below w5.heap.size w5 Y := by rw [hY]; exact (below_new _ _).alloc (by simp) _
      have HB6 := Lib.hid (HB5.out.trans (hbY.mono HB5.out.size))
      have HL6 := Lib.hid (HL5.out.below hbY HL5.out.lt)
      have HM6 := Lib.hid (show Lies Y q 24 #[.int .i64 B, .slice A2 L.length c2] by rw [hY, hq]; exact (Lies.made _ _ _).alloc _)
      have HE6 := Lib.hid (show Lies Y (q + 1) 37 #[.int .i64 0, .int .i64 0, .int .i64 0] by
        rw [hY, hq]
        have := Lies.made (w5.alloc (.cells #[.int .i64 B, .slice A2 L.length c2] 24)) 37 #[.int .i64 0, .int .i64 0, .int .i64 0]
        simpa using this)
      have HT6 := Lib.hid (HT5.out.below (Nat.le_refl _) hbY)
      have HU6 := Lib.hid (HU5.out.below (Nat.le_refl _) hbY)
      have K4 := Lib.hid (same B L A A2 c c2 (by omega) HT6.out HU6.out)
      clear hY hbY hq
      have x0 : Y.cell? ⟨g, 0, none⟩ = some (.int .i64 B) := HL6.out.cell 0
      have x1 : Y.cell? ⟨g, 1, none⟩ = some (.slice A L.length c) := HL6.out.cell 1
      have y0 : Y.cell? ⟨q, 0, none⟩ = some (.int .i64 B) := HM6.out.cell 0
      have y1 : Y.cell? ⟨q, 1, none⟩ = some (.slice A2 L.length c2) := HM6.out.cell 1
      have e0 : Y.cell? ⟨q + 1, 0, none⟩ = some (.int .i64 0) := HE6.out.cell 0
      go_upto_region 8 with fail
      try rw [Int.natCast_zero]
      rw [← HY.out]
      try rw [← HQ.out]
      go_wp2_with (fail)
      with_reducible refine K4.out.mono ?_
      rintro e w6 ⟨rfl, hb6⟩
      have HB7 := Lib.hid (HB6.out.trans (hb6.mono HB6.out.size))
      have HL7 := Lib.hid (HL6.out.below hb6 HL6.out.lt)
      have K5 := Lib.hid (KS.out w6 (HT6.out.below (Nat.le_refl _) hb6))
      clear hb6 x0 x1 y0 y1 e0 K4
      have x0 : w6.cell? ⟨g, 0, none⟩ = some (.int .i64 B) := HL7.out.cell 0
      have x1 : w6.cell? ⟨g, 1, none⟩ = some (.slice A L.length c) := HL7.out.cell 1
      go_wp2_with (fail)
      with_reducible refine K5.out.mono ?_
      rintro e w7 ⟨rfl, hb7⟩
      have HB8 := Lib.hid (HB7.out.trans (hb7.mono HB7.out.size))
      clear hb7
      go_wp2
      go_ret
      exact ⟨rfl, HB8.out⟩
    · have q : ((E : Int) != 0) = true := by simp; omega
      go_wp2
      go_ret
      exact ⟨rfl, (HB2.out.alloc HB2.out.size _).alloc (by have := HB2.out.size; simp; omega) _⟩
end Go.Proofs.YtbijgmaeechmoaaDoor
