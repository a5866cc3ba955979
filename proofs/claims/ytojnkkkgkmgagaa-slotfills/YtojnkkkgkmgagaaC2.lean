/- The walk of the statement on slots that fill a stretch. -/
import Derived.Test.YtojnkkkgkmgagaaFl
import Derived.IntWalk
namespace Go.Proofs.Ytojnkkkgkmgagaa.Fills
open Go.RowKit

def FillRel (w : World) (p K : Nat) (n e : Int) (i : Value) (W : World) : Prop := ∃ (k : Nat) (g : Option Nat), k ≤ K ∧ i = .int .i64 (k : Int) ∧ Has w p 256 g (fillL n e k) W
set_option maxRecDepth 100000 in
set_option maxHeartbeats 8000000 in
theorem core (d r f : Int) (w : World) (hd : 0 ≤ d ∧ d < 256) (hr : 0 ≤ r ∧ r < 256) (hf : 0 ≤ f ∧ f < 65536) : Calls Try.prog 6 #[.int .u8 d, .int .u8 r, .int .u16 f] w (Woke w) := by
  obtain ⟨d1, d2⟩ := hd
  obtain ⟨r1, r2⟩ := hr
  obtain ⟨f1, f2⟩ := hf
  have KN := Lib.hid (has_new (w0 := w) (W := w) 256 (Below.refl _ _) (by omega) (by omega))
  go_enter Try.func6, Try.ntmps6
  go_wp2_with (fail)
  refine KN.out.mono ?_
  rintro e w1 ⟨rfl, h2, _⟩
  have H1 := Lib.hid h2
  clear h2
  generalize w.heap.size = p at H1 ⊢
  go_wp2_with (fail)
  obtain ⟨n, hn⟩ : ∃ n, n = 1 + d % 20 := ⟨_, rfl⟩
  have n1 : 1 ≤ n := by omega
  have n2 : n ≤ 20 := by omega
  rw [← hn]
  clear hn
  refine (awake _).mono ?_
  rintro e w2 ⟨rfl, hb2⟩
  have H2 := Lib.hid (H1.out.keep hb2)
  clear hb2 H1
  have hk1 := Int.mul_ediv_add_emod r n
  have hk2 := Int.emod_nonneg r (show n ≠ 0 by omega)
  have hk3 := Int.emod_lt_of_pos r (show 0 < n by omega)
  have hk4 : 0 ≤ r / n := Int.ediv_nonneg r1 (by omega)
  have hk5 : r / n ≤ r := Int.ediv_le_self _ r1
  go_wp2_with (fail)
  obtain ⟨K, hK⟩ : ∃ K : Nat, r / n = (K : Int) := ⟨(r / n).toNat, by omega⟩
  rw [hK] at hk1 hk5 ⊢
  rw [Int.mul_comm] at hk1
  have HKN := Lib.hid (show (K : Int) * n ≤ r by omega)
  have HKO := Lib.hid (show r < ((K : Int) + 1) * n by rw [Int.add_mul]; omega)
  have hk6 : K < 256 := by omega
  clear hk1 hk2 hk3 hk4 hk5 hK
  go_loopw [13] (fun i W => FillRel w p K n (f + r) i W) (fun i _ => K - (intOf i).toNat)
  case atStart => exact ⟨0, none, by omega, rfl, H2.out⟩
  case round =>
    obtain ⟨k, g, hk, rfl, hh⟩ := hrel
    have H3 := Lib.hid hh
    clear hh
    by_cases hlt : k < K
    · have t1 : decide ((k : Int) < (K : Int)) = true := by simp; omega
      have hp1 : ((k : Int) + 1) * n ≤ r := Int.le_trans (mul_mono (by omega) (by omega)) HKN.out
      have hp0 : 0 ≤ ((k : Int) + 1) * n := Int.mul_nonneg (by omega) (by omega)
      have KP := Lib.hid (has_reserve (k : Int) 1 n f (f + r) H3.out)
      obtain ⟨e1, e2, e3⟩ := fill_res (n := n) (a := f) (e := f + r) (i := k) n1 n2 f1 (by omega) (by omega) H3.out.tab.good (by omega)
      rw [e1, e2, e3] at KP
      clear e1 e2 e3
      go_wp2_with (fail)
      refine KP.out.mono ?_
      rintro e w4 ⟨rfl, g4, h4, _⟩
      have H4 := Lib.hid h4
      clear h4
      go_wp2
      go_roundw
      case rel => exact ⟨k + 1, g4, by omega, by go_num, H4.out⟩
      case measure => simp [intOf]; omega
    · have t1 : decide ((k : Int) < (K : Int)) = false := by simp; omega
      have t1' : decide (k < K) = false := by simp; omega
      obtain rfl : k = K := by omega
      have KP := Lib.hid (has_reserve 999 1 n f (f + r) H3.out)
      obtain ⟨e1, e2⟩ := fill_over (n := n) (a := f) (e := f + r) (i := k) n1 n2 f1 (by omega) (by omega) hk6 H3.out.tab.good (by have := HKO.out; omega)
      rw [e1, e2] at KP
      clear e1 e2
      generalize resP 256 (fillL n (f + r) k) 999 1 n f (f + r) = rp at KP
      go_wp2_with (fail)
      refine KP.out.mono ?_
      rintro e w4 ⟨rfl, g4, h4, _⟩
      have H4 := Lib.hid h4
      clear h4
      have KQ := Lib.hid (has_reserve 998 2 n f (f + r) H4.out)
      obtain ⟨o1, o2⟩ := fill_other (n := n) (a := f) (e := f + r) (i := k) n1 n2 f1 (by omega) (by omega) hk6 H4.out.tab.good
      by_cases h0 : 0 < k
      · have hnr : n ≤ r := by
          have := mul_mono (i := 1) (j := (k : Int)) (n := n) (by omega) (by omega)
          have := HKN.out
          omega
        obtain ⟨e1, e2, e3⟩ := o1 (by omega)
        rw [e1, e2, e3] at KQ
        have HD := Lib.hid (fill_depth (e := f + r) n1 h0)
        have HLN := Lib.hid (show (putK (fillL n (f + r) k) (998, 2, f + r - n, f + r - n + n)).length = k + 1 by rw [length_put, fill_length])
        clear o1 o2 e1 e2 e3
        have t2 : decide (0 < (k : Int)) = true := by simp; omega
        have t2' : decide (0 < k) = true := by simp; omega
        have t3 : ((k : Int) == 0) = false := by simp; omega
        generalize putK (fillL n (f + r) k) (998, 2, f + r - n, f + r - n + n) = M at KQ HD HLN
        go_wp2_with (fail)
        refine KQ.out.mono ?_
        rintro e w5 ⟨rfl, g5, h5, _⟩
        have H5 := Lib.hid h5
        clear h5
        go_wp2_with (fail)
        refine (depth_of (f + r - n) H5.out.tab).mono ?_
        rw [HD.out]
        rintro e w6 ⟨rfl, hb6⟩
        have H6 := Lib.hid (H5.out.keep hb6)
        clear hb6
        go_wp2_with (fail)
        refine (all_of H6.out.tab).mono ?_
        rw [HLN.out]
        rintro e w7 ⟨A7, c7, rfl, hg7⟩
        have H7 := Lib.hid (H6.out.keep hg7.1).below
        clear hg7
        go_wp2
        go_ret
        exact ⟨rfl, H7.out⟩
      · obtain rfl : k = 0 := by omega
        have hrn : r < n := by
          have := HKO.out
          simpa using this
        have e1 := o2 (by omega)
        rw [e1] at KQ
        clear o1 o2 e1
        generalize resP 256 (fillL n (f + r) 0) 998 2 n f (f + r) = rq at KQ
        generalize resM 256 (fillL n (f + r) 0) 998 2 n f (f + r) = M at KQ
        go_wp2_with (fail)
        refine KQ.out.mono ?_
        rintro e w5 ⟨rfl, g5, h5, _⟩
        have H5 := Lib.hid h5
        clear h5
        have hml := H5.out.tab.len
        go_wp2_with (fail)
        refine (all_of H5.out.tab).mono ?_
        rintro e w7 ⟨A7, c7, rfl, hg7⟩
        have H7 := Lib.hid (H5.out.keep hg7.1).below
        clear hg7
        generalize M.length = q at hml ⊢
        by_cases hq : q = 1
        · have t5 : ((q : Int) == 1) = true := by simp; omega
          go_wp2
          go_ret
          exact ⟨rfl, H7.out⟩
        · have t5 : ((q : Int) == 1) = false := by simp; omega
          go_wp2
          go_ret
          exact ⟨rfl, H7.out⟩
end Go.Proofs.Ytojnkkkgkmgagaa.Fills
