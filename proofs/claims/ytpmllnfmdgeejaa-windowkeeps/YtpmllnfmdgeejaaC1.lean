/- The walk of WindowKeeps. -/
import Derived.Test.YtpmllnfmdgeejaaRo
namespace Go.Proofs.Ytpmllnfmdgeejaa.InKeeps
open Go.RowKit

set_option maxHeartbeats 1000000 in
theorem big (a b : Int) (x : Option Addr) (len cap : Nat) (w : World) (hm : len ≤ maxLen) (h : 300 < len) : Calls Try.prog 5 #[.int .u8 a, .int .u8 b, .slice x len cap] w (Woke w) := by
  unfold maxLen at hm
  have t1 : decide ((300 : Int) < (len : Int)) = true := by simp; omega
  go_enter Try.func5, Try.ntmps5
  go_wp2_with (fail)
  refine (awake _).mono ?_
  rintro e w1 ⟨rfl, hb⟩
  go_wp2_with (fail)
  refine (awake _).mono ?_
  rintro e w2 ⟨rfl, hb2⟩
  go_wp2
  go_ret
  exact ⟨rfl, hb.trans (hb2.mono hb.size)⟩

/-- So many places of the row were written over. -/
def FlipRel (w : World) (m p g n b : Nat) (xs : List Bool) (i : Value) (W : World) : Prop :=
  ∃ (k : Nat) (X : World) (ys : List Bool), k ≤ n ∧ i = .int .i64 (k : Int) ∧ X = W ∧ Has w m p g n xs X ∧ Row X b ys ∧ ys.length = n
set_option maxRecDepth 100000 in
set_option maxHeartbeats 4000000 in
theorem core (a b : Int) (x : Option Addr) (cap : Nat) (l : List Bool) (w : World) (a0 : 0 ≤ a) (a1 : a < 256) (b0 : 0 ≤ b) (b1 : b < 256) (hl : l.length ≤ 300) (ha : Bools w x cap l) :
    Calls Try.prog 5 #[.int .u8 a, .int .u8 b, .slice x l.length cap] w (Woke w) := by
  have t0 : decide ((300 : Int) < (l.length : Int)) = false := by simp; omega
  have HA := Lib.hid ha
  clear ha
  have k0 : 0 ≤ b % 64 := by omega
  have k1 : b % 64 < 64 := by omega
  have hk : 0 < 1 + b % 64 := by omega
  have m0 := Int.emod_nonneg a (show 1 + b % 64 ≠ 0 by omega)
  have m1 := Int.emod_lt_of_pos a hk
  have hk0 : ¬ (1 + b % 64 = 0) := by omega
  go_enter Try.func5, Try.ntmps5
  go_wp2_with (fail)
  refine (awake _).mono ?_
  rintro e w1 ⟨rfl, hb1⟩
  have B1 := Lib.hid hb1
  clear hb1
  go_wp2_with (fail)
  have hm1 : 1 ≤ 1 + a % (1 + b % 64) := by omega
  have hm2 : 1 + a % (1 + b % 64) ≤ 1 + b % 64 := by omega
  have hk2 : 1 + b % 64 ≤ 64 := by omega
  clear k0 k1 hk m0 m1 hk0
  generalize 1 + a % (1 + b % 64) = m at hm1 hm2 ⊢
  generalize 1 + b % 64 = k at hm2 hk2 ⊢
  obtain ⟨n, rfl⟩ : ∃ n : Nat, k = (n : Int) := ⟨k.toNat, by omega⟩
  obtain ⟨m, rfl⟩ : ∃ j : Nat, m = (j : Int) := ⟨m.toNat, by omega⟩
  have KN := Lib.hid (new (m := m) (n := n) w1 (by omega) (by omega) (by omega))
  have n1 : 1 ≤ n := by omega
  have n2 : n ≤ 64 := by omega
  clear hm1 hm2 hk2
  with_reducible refine KN.out.mono ?_
  rintro e w2 ⟨p, g, rfl, hp, hg, hw, hb⟩
  have H2 := Lib.hid (Has.made B1.out hp hg hw hb)
  clear hp hg hw hb KN B1
  go_wp2
  go_loopw [10] (fun i W => PushRel l w m p g n i W) (fun i _ => l.length - (intOf i).toNat)
  case atStart => exact ⟨0, _, by omega, rfl, rfl, H2.out.eq (by rw [List.take_zero, lst_nil])⟩
  case round =>
    obtain ⟨k, X, hk, rfl, rfl, hh⟩ := hrel
    have H3 := Lib.hid hh
    clear hh H2
    by_cases hlt : k < l.length
    · have t1 : decide ((k : Int) < (l.length : Int)) = true := by simp; omega
      have hx : l[k]? = some l[k] := by simp
      obtain ⟨d, off, rfl, hd, hc⟩ := HA.out.at_ hx
      have ck := hc _ H3.out.below
      have HL := Lib.hid (lst_take n1 hx)
      clear hx hc
      generalize l[k] = y at ck HL
      go_wp2_with (fail)
      with_reducible refine (push H3.out.win y).mono ?_
      rintro e w3 ⟨rfl, hw, ht⟩
      have H4 := Lib.hid ((H3.out.turn hw ht).eq HL.out.symm)
      clear hw ht H3
      go_wp2
      go_roundw
      case rel => exact ⟨k + 1, _, by omega, by go_num, rfl, H4.out⟩
      case measure => simp [intOf]; omega
    · have t1 : decide ((k : Int) < (l.length : Int)) = false := by simp; omega
      generalize lst n (l.take k) = xs at H3
      have HM : Hid (∀ W, Has w m p g n xs W → Calls Try.prog 12 #[.pointer (some ⟨p, 0, none⟩)] W (Saw (.int .i64 (mets xs : Nat)) W)) := Lib.hid (fun W h => met h.win)
      have HX := Lib.hid H3.out.win.1
      generalize mets xs = c at HM
      go_wp2_with (fail)
      with_reducible refine (HM.out _ H3.out).mono ?_
      rintro e w3 ⟨rfl, q1, rfl⟩
      have H4 := Lib.hid (H3.out.drewN q1)
      clear H3
      go_wp2_with (fail)
      with_reducible refine (lastRow H4.out.win).mono ?_
      rintro e w4 ⟨b, cap2, rfl, hcap, hb, hr, hbel⟩
      have hbp : b ≠ p := by have := H4.out.win.ltp; omega
      have hbg : b ≠ g := by have := H4.out.win.ltg; omega
      have hbw : w.heap.size ≤ b := Nat.le_trans H4.out.below.size hb
      have H5 := Lib.hid (H4.out.tells hbel)
      have HR := Lib.hid hr
      rw [HX.out] at hcap ⊢
      clear hbel hr hb H4
      go_wp2
      go_loopw [13] (fun i W => FlipRel w m p g n b xs i W) (fun i _ => n - (intOf i).toNat)
      case atStart => exact ⟨0, _, _, by omega, rfl, rfl, H5.out, HR.out, HX.out⟩
      case round =>
        obtain ⟨j, X, ys, hj, rfl, rfl, hh, hr, hys⟩ := hrel
        have H6 := Lib.hid hh
        have HR2 := Lib.hid hr
        have HY := Lib.hid hys
        clear hh hr hys H5 HR
        by_cases hlt : j < n
        · have t1 : decide ((j : Int) < (n : Int)) = true := by simp; omega
          have hx : ys[j]? = some (ys[j]'(by have := HY.out; omega)) := List.getElem?_eq_getElem _
          have x0 := HR2.out.cell hx
          have z0 := HR2.out.thawed j
          have i1 : (0 : Int) ≤ (j : Int) := by omega
          have i2 : (j : Int) < (n : Int) := by omega
          clear hx
          generalize ys[j]'_ = v at x0
          go_wp2
          go_roundw
          case rel => exact ⟨j + 1, _, _, by omega, by go_num, rfl, H6.out.set hbw (Ne.symm hbp) (Ne.symm hbg) _, HR2.out.set j (!v), by rw [List.length_set]; exact HY.out⟩
          case measure => simp [intOf]; omega
        · have t1 : decide ((j : Int) < (n : Int)) = false := by simp; omega
          go_wp2_with (fail)
          with_reducible refine (HM.out _ H6.out).mono ?_
          rintro e w3 ⟨rfl, q2, rfl⟩
          go_wp2
          go_ret
          exact ⟨by simp, (H6.out.drewN q2).below⟩
end Go.Proofs.Ytpmllnfmdgeejaa.InKeeps
