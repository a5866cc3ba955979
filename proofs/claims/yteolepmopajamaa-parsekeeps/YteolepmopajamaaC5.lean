/- The walk of the statement on whatever bytes. -/
import Derived.Test.YteolepmopajamaaSh
import Derived.Test.YteolepmopajamaaC2
import Derived.Test.YteolepmopajamaaKSa
namespace Go.Proofs.Yteolepmopajamaa
open Go.RowKit Lx Kx

theorem refSet' {l : List UInt8} {B : Int} {L : List Tk} {E li co : Nat} (h : setA l = ((B, L), E, li, co)) {a : Option Addr} {cap n : Nat} {w : World} (hl : l.length ≤ 100000) (hn : l.length = n) (hb : Bytes w a cap l) :
    Calls Try.prog 11 #[.slice a n cap] w (Parsed' B L E li co w) := by
  subst hn
  have := refSet l a cap hl hb
  rw [h] at this
  exact this.mono fun e w' ⟨A, c, he, h1, h2, h3⟩ => ⟨A, c, he, h1, h2, h3⟩
theorem len_set16 (b : List UInt8) : (setA b).1.2.length ≤ 16 := by
  rcases setA_cases b with ⟨_, _, _, _, h⟩ | ⟨_, h, _⟩
  · exact ((right_iff _ _).1 h).2.1.2
  · rw [h]; simp

set_option maxRecDepth 100000 in
set_option maxHeartbeats 8000000 in
theorem coreRight (l : List UInt8) (a : Option Addr) (cap : Nat) {w : World} (hm : l.length ≤ maxLen) (hb : Bytes w a cap l) : Calls Try.prog 3 #[.slice a l.length cap] w (Woke w) := by
  unfold maxLen at hm
  have HB := Lib.hid hb
  have hle := hb.le
  clear hb
  by_cases h5 : 5000 < l.length
  · have t1 : decide ((5000 : Int) < (l.length : Int)) = true := by simp; omega
    go_enter Try.func3, Try.ntmps3
    go_wp2_with (fail)
    refine (awake _).mono ?_
    rintro e w1 ⟨rfl, hb1⟩
    have H1 := Lib.hid hb1
    clear hb1
    go_wp2_with (fail)
    refine (awake _).mono ?_
    rintro e w2 ⟨rfl, hb2⟩
    have H2 := Lib.hid (H1.out.trans (hb2.mono H1.out.size))
    clear hb2
    go_wp2
    go_ret
    exact ⟨rfl, H2.out⟩
  · have t1 : decide ((5000 : Int) < (l.length : Int)) = false := by simp; omega
    go_enter Try.func3, Try.ntmps3
    go_wp2_with (fail)
    refine (awake _).mono ?_
    rintro e w1 ⟨rfl, hb1⟩
    have HB1 := Lib.hid hb1
    clear hb1
    obtain ⟨⟨⟨B, L⟩, E, li, co⟩, hS⟩ : ∃ S, S = setA l := ⟨_, rfl⟩
    have HC := Lib.hid (setA_cases l)
    have hls := len_set16 l
    rw [← hS] at HC hls
    have hls' : L.length ≤ 16 := hls
    have HS := Lib.hid hS
    have K1 := Lib.hid (set' hS.symm (by omega) rfl (HB.out.below (Nat.le_refl _) HB1.out))
    clear hS hls
    go_wp2_with (fail)
    with_reducible refine K1.out.mono ?_
    rintro e w2 ⟨A, c, rfl, hta, _, hb2⟩
    have HB2 := Lib.hid (HB1.out.trans (hb2.mono HB1.out.size))
    have HTA := Lib.hid hta
    clear hb2 hta
    obtain ⟨V, hV⟩ : ∃ V, V = (w2.alloc (.cells #[.int .i64 B, .slice A L.length c] 26)).alloc (.cells #[.int .i64 (E : Int), .int .i64 (li : Int), .int .i64 (co : Int)] 29) := ⟨_, rfl⟩
    have HVE := Lib.hid hV
    have HV2 : Hid (Below w2.heap.size w2 V) := by rw [hV]; exact (below_new _ _).alloc (by simp) _
    have HBV := Lib.hid (HB2.out.trans (HV2.out.mono HB2.out.size))
    have HL1 : Hid (Lies V w2.heap.size 26 #[.int .i64 B, .slice A L.length c]) := by rw [hV]; exact (Lies.made _ _ _).alloc _
    have HL2 := Lib.hid (show Lies V (w2.heap.size + 1) 29 #[.int .i64 (E : Int), .int .i64 (li : Int), .int .i64 (co : Int)] by
      rw [hV]
      have := Lies.made (w2.alloc (.cells #[.int .i64 B, .slice A L.length c] 26)) 29 #[.int .i64 (E : Int), .int .i64 (li : Int), .int .i64 (co : Int)]
      simpa using this)
    have K2 := Lib.hid (refSet' HS.out.symm (by omega) rfl (HB.out.below (Nat.le_refl _) HBV.out))
    clear hV
    go_upto_region 4 with fail
    rw [← HVE.out]
    go_wp2_with (fail)
    with_reducible refine K2.out.mono ?_
    rintro e w4 ⟨A4, c4, rfl, hta4, _, hb4⟩
    obtain ⟨V4, hV4⟩ : ∃ V4, V4 = (w4.alloc (.cells #[.int .i64 B, .slice A4 L.length c4] 26)).alloc (.cells #[.int .i64 (E : Int), .int .i64 (li : Int), .int .i64 (co : Int)] 29) := ⟨_, rfl⟩
    have HV4 := Lib.hid hV4
    have HW4 : Hid (Below w4.heap.size w4 V4) := by rw [hV4]; exact (below_new _ _).alloc (by simp) _
    have HVV := Lib.hid (hb4.trans (HW4.out.mono hb4.size))
    have HWV := Lib.hid (HBV.out.trans (HVV.out.mono HBV.out.size))
    have HL1' := Lib.hid (HL1.out.below HVV.out HL1.out.lt)
    have HL2' := Lib.hid (HL2.out.below HVV.out HL2.out.lt)
    have HL3 : Hid (Lies V4 w4.heap.size 26 #[.int .i64 B, .slice A4 L.length c4]) := by rw [hV4]; exact (Lies.made _ _ _).alloc _
    have HL4 := Lib.hid (show Lies V4 (w4.heap.size + 1) 29 #[.int .i64 (E : Int), .int .i64 (li : Int), .int .i64 (co : Int)] by
      rw [hV4]
      have := Lies.made (w4.alloc (.cells #[.int .i64 B, .slice A4 L.length c4] 26)) 29 #[.int .i64 (E : Int), .int .i64 (li : Int), .int .i64 (co : Int)]
      simpa using this)
    have HTA4 := Lib.hid (HTA.out.below (Nat.le_refl _) (HV2.out.trans (HVV.out.mono HV2.out.size)))
    have KS := Lib.hid (same B L A A4 c c4 (w := V4) (by omega) HTA4.out (hta4.below (Nat.le_refl _) HW4.out))
    have KR : Hid (∀ W, Below V4.heap.size V4 W → Calls Try.prog 13 #[.agg #[.int .i64 B, .slice A L.length c]] W (Tells ((whyF B L).1 == 0) W)) := fun W hW => refRight B L A c (by unfold maxLen; omega) (HTA4.out.below (Nat.le_refl _) hW)
    clear hta4 hb4 hV4
    go_upto_region 5 with fail
    rw [← HV4.out]
    have a0 : V4.cell? ⟨w2.heap.size, 0, none⟩ = some (.int .i64 B) := (HL1'.out.cell 0).trans rfl
    have a1 : V4.cell? ⟨w2.heap.size, 1, none⟩ = some (.slice A L.length c) := (HL1'.out.cell 1).trans rfl
    have b0 : V4.cell? ⟨w2.heap.size + 1, 0, none⟩ = some (.int .i64 (E : Int)) := (HL2'.out.cell 0).trans rfl
    have b1 : V4.cell? ⟨w2.heap.size + 1, 1, none⟩ = some (.int .i64 (li : Int)) := (HL2'.out.cell 1).trans rfl
    have b2 : V4.cell? ⟨w2.heap.size + 1, 2, none⟩ = some (.int .i64 (co : Int)) := (HL2'.out.cell 2).trans rfl
    have d0 : V4.cell? ⟨w4.heap.size, 0, none⟩ = some (.int .i64 B) := (HL3.out.cell 0).trans rfl
    have d1 : V4.cell? ⟨w4.heap.size, 1, none⟩ = some (.slice A4 L.length c4) := (HL3.out.cell 1).trans rfl
    have e0 : V4.cell? ⟨w4.heap.size + 1, 0, none⟩ = some (.int .i64 (E : Int)) := (HL4.out.cell 0).trans rfl
    have e1 : V4.cell? ⟨w4.heap.size + 1, 1, none⟩ = some (.int .i64 (li : Int)) := (HL4.out.cell 1).trans rfl
    have e2 : V4.cell? ⟨w4.heap.size + 1, 2, none⟩ = some (.int .i64 (co : Int)) := (HL4.out.cell 2).trans rfl
    go_wp2_with (fail)
    with_reducible refine KS.out.mono ?_
    rintro e w5 ⟨rfl, hb5⟩
    have HL5 := Lib.hid (HL2'.out.below hb5 HL2'.out.lt)
    have HL6 := Lib.hid (HL1'.out.below hb5 HL1'.out.lt)
    have HB5 := Lib.hid (HWV.out.trans (hb5.mono HWV.out.size))
    have KR5 := Lib.hid (KR.out w5 hb5)
    have b0' : w5.cell? ⟨w2.heap.size + 1, 0, none⟩ = some (.int .i64 (E : Int)) := (HL5.out.cell 0).trans rfl
    have a0' : w5.cell? ⟨w2.heap.size, 0, none⟩ = some (.int .i64 B) := (HL6.out.cell 0).trans rfl
    have a1' : w5.cell? ⟨w2.heap.size, 1, none⟩ = some (.slice A L.length c) := (HL6.out.cell 1).trans rfl
    clear hb5 a0 a1 b0 b1 b2 d0 d1 e0 e1 e2
    rcases HC.out with ⟨h0, _, _, _, hw⟩ | ⟨h0, _⟩
    · have hE : E = 0 := h0
      have hw' : (whyF B L).1 = 0 := hw
      rw [hw'] at KR5
      have q : ((E : Int) != 0) = false := by rw [hE]; rfl
      clear h0 hw hw' hE HC
      generalize (E : Int) = z at b0' q
      go_wp2_with (fail)
      with_reducible refine KR5.out.mono ?_
      rintro e w6 ⟨rfl, hb6⟩
      have HB6 := Lib.hid (HB5.out.trans (hb6.mono HB5.out.size))
      clear hb6
      go_wp2
      go_ret
      exact ⟨rfl, HB6.out⟩
    · have q : ((E : Int) != 0) = true := by
        have : E ≠ 0 := h0
        simp; omega
      clear h0 HC
      generalize (E : Int) = z at b0' q
      go_wp2
      go_ret
      exact ⟨rfl, HB5.out⟩
end Go.Proofs.Yteolepmopajamaa
