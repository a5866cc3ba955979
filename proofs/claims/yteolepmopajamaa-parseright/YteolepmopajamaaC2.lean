/- The walk of the statement on beginnings. -/
import Derived.Test.YteolepmopajamaaAw
import Derived.Test.YteolepmopajamaaPl
import Derived.Test.YteolepmopajamaaKRx
namespace Go.Proofs.Yteolepmopajamaa
open Go.RowKit Lx Kx

theorem bytes_take {w : World} {a : Option Addr} {cap : Nat} {l : List UInt8} (h : Bytes w a cap l) (k : Nat) : Bytes w a cap (l.take k) := by
  refine ⟨by rw [List.length_take]; have := h.le; omega, ?_⟩
  rcases h.form with h0 | ⟨b, off, ha, hlt, hc⟩
  · exact .inl h0
  · refine .inr ⟨b, off, ha, hlt, fun i c hi => hc i c ?_⟩
    rw [List.getElem?_take] at hi
    split at hi
    · exact hi
    · cases hi
/-- What is answered, part by part. -/
def Parsed' (B : Int) (L : List Tk) (E li co : Nat) (w : World) (e : Ending) (w' : World) : Prop :=
  ∃ A c, e = .returned (.tuple #[.agg #[.int .i64 B, .slice A L.length c], .agg #[.int .i64 (E : Int), .int .i64 (li : Int), .int .i64 (co : Int)]]) ∧ Tasks w' A c L ∧ (∀ x, A = some x → w.heap.size ≤ x.block) ∧ Below w.heap.size w w'
theorem set' {l : List UInt8} {B : Int} {L : List Tk} {E li co : Nat} (h : setA l = ((B, L), E, li, co)) {a : Option Addr} {cap n : Nat} {w : World} (hl : l.length ≤ 100000) (hn : l.length = n) (hb : Bytes w a cap l) :
    Calls Try.prog 10 #[.slice a n cap] w (Parsed' B L E li co w) := by
  subst hn
  have := set l a cap hl hb
  rw [h] at this
  exact this.mono fun e w' ⟨A, c, he, h1, h2, h3⟩ => ⟨A, c, he, h1, h2, h3⟩

set_option maxRecDepth 100000 in
set_option maxHeartbeats 8000000 in
theorem coreCuts (l : List UInt8) (a : Option Addr) (cap : Nat) (nn : Nat) (hnn : nn ≤ 65535) {w : World} (hm : l.length ≤ maxLen) (hb : Bytes w a cap l) : Calls Try.prog 8 #[.slice a l.length cap, .int .u16 (nn : Int)] w (Woke w) := by
  unfold maxLen at hm
  have HB := Lib.hid hb
  have hle := hb.le
  clear hb
  by_cases h5 : 2000 < l.length
  · have t1 : decide ((2000 : Int) < (l.length : Int)) = true := by simp; omega
    go_enter Try.func8, Try.ntmps8
    go_wp2_with (fail)
    refine (awake _).mono ?_
    rintro e w1 ⟨rfl, hb1⟩
    have H1 := Lib.hid hb1
    clear hb1
    go_wp2_with (fail)
    refine (awake _).mono ?_
    rintro e w2 ⟨rfl, hb2⟩
    have H2 := Lib.hid (H1.out.trans (hb2.mono H1.out.size))
    clear hb2
    go_wp2
    go_ret
    exact ⟨rfl, H2.out⟩
  · have t1 : decide ((2000 : Int) < (l.length : Int)) = false := by simp; omega
    go_enter Try.func8, Try.ntmps8
    go_wp2_with (fail)
    refine (awake _).mono ?_
    rintro e w1 ⟨rfl, hb1⟩
    have HB1 := Lib.hid hb1
    clear hb1
    obtain ⟨⟨⟨B, L⟩, E, li, co⟩, hS⟩ : ∃ S, S = setA l := ⟨_, rfl⟩
    have HC := Lib.hid (setA_cases l)
    have HS := Lib.hid hS
    rw [← hS] at HC
    have K1 := Lib.hid (set' hS.symm (by omega) rfl (HB.out.below (Nat.le_refl _) HB1.out))
    clear hS
    go_wp2_with (fail)
    with_reducible refine K1.out.mono ?_
    rintro e w2 ⟨A, c, rfl, _, _, hb2⟩
    have HB2 := Lib.hid (HB1.out.trans (hb2.mono HB1.out.size))
    clear hb2
    by_cases hE : E = 0
    · subst hE
      obtain ⟨V, hV⟩ : ∃ V, V = (w2.alloc (.cells #[.int .i64 B, .slice A L.length c] 26)).alloc (.cells #[.int .i64 0, .int .i64 (li : Int), .int .i64 (co : Int)] 29) := ⟨_, rfl⟩
      have HVE := Lib.hid hV
      have HBV : Hid (Below w.heap.size w V) := by rw [hV]; exact (HB2.out.alloc HB2.out.size _).alloc (by have := HB2.out.size; simp; omega) _
      have HL1 : Hid (Lies V w2.heap.size 26 #[.int .i64 B, .slice A L.length c]) := by rw [hV]; exact (Lies.made _ _ _).alloc _
      have h0' : ¬ ((l.length : Int) + 1 = 0) := by omega
      obtain ⟨k, hk⟩ : ∃ k, k = nn % (l.length + 1) := ⟨_, rfl⟩
      have hkl : k ≤ l.length := by have : k < l.length + 1 := by rw [hk]; exact Nat.mod_lt _ (by omega)
                                    omega
      have HQ := Lib.hid (show (nn : Int) % ((l.length : Int) + 1) = (k : Int) by rw [hk]; simp)
      clear hk hV
      go_upto_region 6 with fail
      rw [← HVE.out]
      go_upto_region 7 with fail
      rw [HQ.out]
      have hkc : k ≤ cap := by omega
      have HSZ := Lib.hid (show (l.take k).length = k by rw [List.length_take]; omega)
      obtain ⟨⟨⟨B2, L2⟩, E2, li2, co2⟩, hS2⟩ : ∃ S, S = setA (l.take k) := ⟨_, rfl⟩
      have HC2 := Lib.hid (setA_cases (l.take k))
      have HCU : Hid (E2 = 0 → L2.length ≤ L.length) := by
        have h1 := cuts (b := l) k
        rw [← hS2, ← HS.out] at h1
        exact fun h => h1 rfl h
      rw [← hS2] at HC2
      have K2 := Lib.hid (set' hS2.symm (by rw [HSZ.out]; omega) HSZ.out (bytes_take (HB.out.below (Nat.le_refl _) HBV.out) k))
      rw [HSZ.out] at HC2
      clear hS2 h0' HQ
      go_wp2_with (fail)
      with_reducible refine K2.out.mono ?_
      rintro e w3 ⟨A2, c2, rfl, hta, _, hb3⟩
      have HB3 := Lib.hid (HBV.out.trans (hb3.mono HBV.out.size))
      have HL3 := Lib.hid (HL1.out.below hb3 HL1.out.lt)
      have HTA := Lib.hid hta
      clear hta hb3
      rcases HC2.out with ⟨h0, _, _, _, hw⟩ | ⟨h0, hz, h1, h2, h3⟩
      · obtain rfl : E2 = 0 := h0
        have hw' : (whyF B2 L2).1 = 0 := hw
        have hln : L2.length ≤ L.length := HCU.out rfl
        have d1 : decide ((L2.length : Int) ≤ (L.length : Int)) = true := by simp; omega
        have d1' : decide (L2.length ≤ L.length) = true := by simp; omega
        obtain ⟨V2, hV2⟩ : ∃ V2, V2 = (w3.alloc (.cells #[.int .i64 B2, .slice A2 L2.length c2] 26)).alloc (.cells #[.int .i64 0, .int .i64 (li2 : Int), .int .i64 (co2 : Int)] 29) := ⟨_, rfl⟩
        have HV2 := Lib.hid hV2
        have HBV2 : Hid (Below w3.heap.size w3 V2) := by rw [hV2]; exact (below_new _ _).alloc (by simp) _
        have HL4 : Hid (Lies V2 w3.heap.size 26 #[.int .i64 B2, .slice A2 L2.length c2]) := by rw [hV2]; exact (Lies.made _ _ _).alloc _
        have hlen16 := ((right_iff B2 L2).1 hw').2.1
        have KR := Lib.hid (refRight B2 L2 A2 c2 (w := V2) (by unfold maxLen; omega) (HTA.out.below (Nat.le_refl _) HBV2.out))
        rw [hw'] at KR
        clear hw hw' hV2 HC HC2 HCU hlen16 hln
        go_upto_region 10 with fail
        rw [← HV2.out]
        have x0 : V2.cell? ⟨w3.heap.size, 0, none⟩ = some (.int .i64 B2) := (HL4.out.cell 0).trans rfl
        have x1 : V2.cell? ⟨w3.heap.size, 1, none⟩ = some (.slice A2 L2.length c2) := (HL4.out.cell 1).trans rfl
        go_wp2_with (fail)
        with_reducible refine KR.out.mono ?_
        rintro e w5 ⟨rfl, hb5⟩
        have HL5 := Lib.hid (HL4.out.below hb5 HL4.out.lt)
        have HL6 := Lib.hid ((HL3.out.below HBV2.out HL3.out.lt).below hb5 (Nat.lt_of_lt_of_le HL3.out.lt HBV2.out.size))
        have HB5 := Lib.hid ((HB3.out.trans (HBV2.out.mono HB3.out.size)).trans (hb5.mono (Nat.le_trans HB3.out.size HBV2.out.size)))
        have y1 : w5.cell? ⟨w3.heap.size, 1, none⟩ = some (.slice A2 L2.length c2) := (HL5.out.cell 1).trans rfl
        have z1 : w5.cell? ⟨w2.heap.size, 1, none⟩ = some (.slice A L.length c) := (HL6.out.cell 1).trans rfl
        clear hb5 x0 x1
        go_wp2
        go_ret
        exact ⟨rfl, HB5.out⟩
      · have hz' : B2 = 0 ∧ L2 = [] := by simpa using hz
        obtain ⟨rfl, rfl⟩ := hz'
        have q1 : ((E2 : Int) != 0) = true := by
          have : E2 ≠ 0 := h0
          simp; omega
        have g1 : 1 ≤ li2 := h1
        have g2 : 1 ≤ co2 := h2
        have g3 : co2 ≤ k + 1 := h3
        have d1 : decide ((1 : Int) ≤ (li2 : Int)) = true := by simp; omega
        have d2 : decide ((1 : Int) ≤ (co2 : Int)) = true := by simp; omega
        have d3 : decide ((co2 : Int) ≤ (k : Int) + 1) = true := by simp; omega
        have HB4 := Lib.hid ((HB3.out.alloc HB3.out.size (.cells #[.int .i64 0, .slice A2 0 c2] 26)).alloc (by have := HB3.out.size; simp; omega) (.cells #[.int .i64 (E2 : Int), .int .i64 (li2 : Int), .int .i64 (co2 : Int)] 29))
        clear h0 hz h1 h2 h3 HC HC2 HCU
        simp only [List.length_nil]
        go_wp2
        go_ret
        exact ⟨rfl, HB4.out⟩
    · have q : ((E : Int) != 0) = true := by simp; omega
      go_wp2
      go_ret
      exact ⟨rfl, (HB2.out.alloc HB2.out.size _).alloc (by have := HB2.out.size; simp; omega) _⟩
end Go.Proofs.Yteolepmopajamaa
